/- What comes in reads as trees: every type of whole numbers, Booleans, strings, structs and slices. -/
import Derived.Test.YtdhofaiogbpjpaaTree
import Derived.ProofKit
import Derived.OpenShut
import Derived.Deep.Slices
namespace Go.Proofs.Ytdhofaiogbpjpaa
open Go.ChangeShapes Go.RowKit Go.Joins
namespace Tre

/-- What a cell may hold. -/
inductive Ty where
  | int (k : IntKind)
  | bool
  | str
  | row (fs : List Ty)

/-- A tree of a type. -/
inductive Of : Ty → Tr → Prop
  | int (k : IntKind) (n : Int) (h : (Lit.int k n).wf = true) : Of (.int k) (.leaf (.int k n))
  | bool (b : Bool) : Of .bool (.leaf (.bool b))
  | str (s : ByteArray) (h : s.size ≤ maxLen) : Of .str (.leaf (.string s))
  | row (fs : List Ty) (m : Nat) (xs : List Tr) (hm : m ≤ maxLen) (hl : xs.length = m * fs.length)
      (h : ∀ (j : Nat) (t : Tr) (f : Ty), xs[j]? = some t → fs[j % fs.length]? = some f → Of f t) : Of (.row fs) (.row m xs)
structure OfAll (fs : List Ty) (ts : List Tr) : Prop where
  len : ts.length = fs.length
  each : ∀ (i : Nat) (f : Ty) (t : Tr), fs[i]? = some f → ts[i]? = some t → Of f t
theorem OfAll.nil : OfAll [] [] := ⟨rfl, fun i f t h => by simp at h⟩
theorem OfAll.append {fs gs : List Ty} {ts us : List Tr} (h : OfAll fs ts) (r : OfAll gs us) : OfAll (fs ++ gs) (ts ++ us) :=
  ⟨by simp [h.len, r.len], fun i x y hx hy => by
    rcases Nat.lt_or_ge i fs.length with hi | hi
    · rw [List.getElem?_append_left hi] at hx
      rw [List.getElem?_append_left (by rw [h.len]; exact hi)] at hy
      exact h.each i x y hx hy
    · rw [List.getElem?_append_right hi] at hx
      rw [List.getElem?_append_right (by rw [h.len]; exact hi), h.len] at hy
      exact r.each _ x y hx hy⟩
theorem OfAll.one {f : Ty} {t : Tr} (h : Of f t) : OfAll [f] [t] := ⟨rfl, fun i x y hx hy => by
  cases i with
  | zero =>
    simp only [List.getElem?_cons_zero, Option.some.injEq] at hx hy
    rw [← hx, ← hy]; exact h
  | succ i => simp at hx⟩

/-- The cells of a struct's fields. -/
def fieldsShape (P : Program) (sh : TypeId → Option (List Ty)) : List Field → Nat → Option (List Ty)
  | [], _ => some []
  | f :: r, o => (sh f.type).bind fun g => if f.offset = o ∧ P.cellsOf f.type = g.length then (fieldsShape P sh r (o + g.length)).map fun r => g ++ r else none
/-- The cells of a type. -/
def shape (P : Program) : Nat → TypeId → Option (List Ty)
  | 0, _ => none
  | n + 1, t => match P.underlying t with
    | some (.int k) => some [.int k]
    | some .bool => some [.bool]
    | some .string => some [.str]
    | some (.slice e) => (shape P n e).bind fun fs => if P.cellsOf e = fs.length ∧ 0 < fs.length then some [.row fs] else none
    | some (.struct fs) => (fieldsShape P (shape P n) fs.toList 0).bind fun gs => if P.cellsOf t = gs.length then some gs else none
    | _ => none

theorem flat_len {α : Type} {n : Nat} {f : Nat → List α} : ∀ m, (∀ i, i < m → (f i).length = n) → ((List.range m).flatMap f).length = m * n
  | 0, _ => by simp
  | m + 1, hf => by
    rw [List.range_succ, List.flatMap_append, List.length_append, flat_len m fun i hi => hf i (by omega)]
    simp [hf m (by omega), Nat.succ_mul]
theorem flat_get {α : Type} {n : Nat} {f : Nat → List α} : ∀ m j, (∀ i, i < m → (f i).length = n) → j < m * n → ((List.range m).flatMap f)[j]? = (f (j / n))[j % n]?
  | 0, j, _, h => by simp at h
  | m + 1, j, hf, h => by
    have hl := flat_len m fun i hi => hf i (by omega)
    rw [List.range_succ, List.flatMap_append]
    rcases Nat.lt_or_ge j (m * n) with hj | hj
    · rw [List.getElem?_append_left (by rw [hl]; exact hj)]
      exact flat_get m j (fun i hi => hf i (by omega)) hj
    · rw [List.getElem?_append_right (by rw [hl]; exact hj), hl]
      rw [Nat.succ_mul] at h
      have hn : 0 < n := by omega
      have h1 : j / n = m := Nat.div_eq_of_lt_le hj (by rw [Nat.succ_mul]; exact h)
      have h2 : j % n = j - m * n := by
        have := Nat.div_add_mod j n
        rw [h1, Nat.mul_comm] at this
        omega
      rw [h1, h2]
      simp

section
variable {H : Type} {enc : TypeId × Value → H} {P : Program} {W : World} {base : Nat} {spare : Nat → Bool} {held : Bool}
theorem fields_in {n : Nat} {sh : TypeId → Option (List Ty)} {cs : List Value}
    (ih : ∀ t fs cs x, sh t = some fs → DataW.trod enc P W base spare held n t cs = some x → ∃ ts, LiesAll (fun _ => True) W ts cs ∧ OfAll fs ts) :
    ∀ (l : List Field) (o : Nat) (gs : List Ty), fieldsShape P sh l o = some gs → (∀ f ∈ l, ∃ y, DataW.trod enc P W base spare held n f.type ((cs.drop f.offset).take (P.cellsOf f.type)) = some y) →
    ∃ ts, LiesAll (fun _ => True) W ts ((cs.drop o).take gs.length) ∧ OfAll gs ts
  | [], o, gs, h, _ => by
    simp only [fieldsShape, Option.some.injEq] at h
    subst h
    exact ⟨[], by simpa using LiesAll.nil, OfAll.nil⟩
  | f :: r, o, gs, h, hx => by
    simp only [fieldsShape, Option.bind_eq_some_iff] at h
    obtain ⟨g, hg, h⟩ := h
    split at h
    · rename_i hc
      obtain ⟨ho, hcl⟩ := hc
      rw [Option.map_eq_some_iff] at h
      obtain ⟨q, hq, rfl⟩ := h
      obtain ⟨y, hy⟩ := hx f List.mem_cons_self
      rw [ho, hcl] at hy
      obtain ⟨t1, l1, o1⟩ := ih _ _ _ _ hg hy
      obtain ⟨t2, l2, o2⟩ := fields_in ih r (o + g.length) q hq fun f hf => hx f (List.mem_cons_of_mem _ hf)
      refine ⟨t1 ++ t2, ?_, o1.append o2⟩
      rw [List.length_append, List.take_add, List.drop_drop]
      exact l1.append l2
    · cases h

/-- THE CELLS OF A TYPE, READ, ARE TREES. -/
theorem trees_in : ∀ (n : Nat) (fuel : Nat) (t : TypeId) (fs : List Ty) (cs : List Value) (x : DataW H × List MemPlace), shape P n t = some fs → DataW.trod enc P W base spare held fuel t cs = some x →
    ∃ ts, LiesAll (fun _ => True) W ts cs ∧ OfAll fs ts
  | 0, _, _, _, _, _, h, _ => by simp [shape] at h
  | n + 1, fuel, t, fs, cs, x, h, hf => by
    unfold shape at h
    split at h
    · rename_i k ht
      cases h
      obtain ⟨m, rfl, -, hw⟩ := DataW.trod_int ht hf
      exact ⟨[.leaf _], LiesAll.leaves [_], .one (.int k m hw)⟩
    · rename_i ht
      cases h
      obtain ⟨b, rfl, -⟩ := DataW.trod_bool ht hf
      exact ⟨[.leaf _], LiesAll.leaves [_], .one (.bool b)⟩
    · rename_i ht
      cases h
      obtain ⟨s, rfl, -, hs⟩ := DataW.trod_string ht hf
      exact ⟨[.leaf _], LiesAll.leaves [_], .one (.str s hs)⟩
    · rename_i e ht
      rw [Option.bind_eq_some_iff] at h
      obtain ⟨gs, hgs, h⟩ := h
      split at h
      · rename_i hc
        obtain ⟨hce, hpos⟩ := hc
        cases h
        rcases Deep.open_slice ht hf with ⟨rfl, -⟩ | ⟨a, len, cap, m, n', D, Pl, rfl, -, hl, hm, hmm, -, hel⟩
        · exact ⟨[.row 0 []], LiesAll.nil.cons (.nil none 0), .one (.row gs 0 [] (Nat.zero_le _) (by simp) fun j t f h => by simp at h)⟩
        · have hlm : len ≤ m := by rw [hmm]; split <;> omega
          have each : ∀ i, i < len → ∃ q : List Value × List Tr, q.1.length = gs.length ∧ (∀ r, r < gs.length → W.cell? (a.add (i * gs.length + r)) = q.1[r]?) ∧ LiesAll (fun _ => True) W q.2 q.1 ∧ OfAll gs q.2 := fun i hi => by
            obtain ⟨c, g1, g2⟩ := hel i (by omega)
            rw [hce] at g1
            obtain ⟨-, hlen, hcell⟩ := World.cells?_some g1
            obtain ⟨ts, l1, o1⟩ := trees_in n n' e gs c _ hgs g2
            exact ⟨(c, ts), hlen, fun r hr => by rw [← Deep.add_add]; exact hcell r hr, l1, o1⟩
          obtain ⟨f, hfs⟩ := Deep.choose_lt each
          rcases Nat.eq_zero_or_pos len with h0 | h0
          · subst h0
            exact ⟨[.row 0 []], LiesAll.nil.cons (.nil _ _), .one (.row gs 0 [] (Nat.zero_le _) (by simp) fun j t f h => by simp at h)⟩
          · have hv1 : ∀ i, i < len → (f i).1.length = gs.length := fun i hi => (hfs i hi).1
            have ht1 : ∀ i, i < len → (f i).2.length = gs.length := fun i hi => by rw [← (hfs i hi).2.2.1.len]; exact hv1 i hi
            obtain ⟨ab, ao, spot⟩ := a
            obtain ⟨v0, hv0⟩ : ∃ v0, (f 0).1[0]? = some v0 := ⟨_, List.getElem?_eq_getElem (by rw [hv1 0 h0]; exact hpos)⟩
            have hc0 := ((hfs 0 h0).2.1 0 hpos).trans hv0
            have hspot : spot = none := by simpa [Addr.add] using World.cell?_spot hc0
            subst hspot
            rw [Addr.add_lit] at hc0
            have hb : ab < W.heap.size := by
              rcases Nat.lt_or_ge ab W.heap.size with h | h
              · exact h
              · simp [World.cell?, Array.getElem?_eq_none h] at hc0
            have idx : ∀ j, j < len * gs.length → j / gs.length < len ∧ j % gs.length < gs.length ∧ j / gs.length * gs.length + j % gs.length = j := fun j hj => by
              refine ⟨(Nat.div_lt_iff_lt_mul hpos).2 hj, Nat.mod_lt _ hpos, ?_⟩
              rw [Nat.mul_comm]; exact Nat.div_add_mod j _
            have lv := flat_len len hv1
            have lt := flat_len len ht1
            refine ⟨[.row len ((List.range len).flatMap fun i => (f i).2)], LiesAll.nil.cons (.row len _ ab ao cap ((List.range len).flatMap fun i => (f i).1) trivial hb (by rw [lv, lt]) (fun j v hv => ?_) (fun j t v ht hv => ?_)), .one (.row gs len _ (by omega) lt fun j t g ht hg => ?_)⟩
            · have hj : j < len * gs.length := by rw [← lv]; exact (List.getElem?_eq_some_iff.1 hv).1
              rw [flat_get len j hv1 hj] at hv
              obtain ⟨h1, h2, h3⟩ := idx j hj
              have := (hfs _ h1).2.1 _ h2
              rw [h3, hv, Addr.add_lit] at this
              exact this
            · have hj : j < len * gs.length := by rw [← lv]; exact (List.getElem?_eq_some_iff.1 hv).1
              rw [flat_get len j hv1 hj] at hv
              rw [flat_get len j ht1 hj] at ht
              obtain ⟨h1, h2, h3⟩ := idx j hj
              exact (hfs _ h1).2.2.1.each _ _ _ ht hv
            · have hj : j < len * gs.length := by rw [← lt]; exact (List.getElem?_eq_some_iff.1 ht).1
              rw [flat_get len j ht1 hj] at ht
              obtain ⟨h1, h2, h3⟩ := idx j hj
              exact (hfs _ h1).2.2.2.each _ _ _ hg ht
      · cases h
    · rename_i fl ht
      rw [Option.bind_eq_some_iff] at h
      obtain ⟨gs, hgs, h⟩ := h
      split at h
      · rename_i hc
        cases h
        obtain ⟨xs, n', -, -, hlen, hxs, hel⟩ := DataW.trod_struct ht hf
        obtain ⟨ts, l1, o1⟩ := fields_in (cs := cs) (n := n') (fun t fs cs x h g => trees_in n n' t fs cs x h g) fl.toList 0 fs hgs (fun f hfm => by
          obtain ⟨i, hi, rfl⟩ := List.mem_iff_getElem.1 hfm
          have hi' : i < fl.size := by simpa using hi
          have := hel i fl[i] (Array.getElem?_eq_getElem hi')
          rw [List.getElem?_eq_getElem (by omega)] at this
          exact ⟨_, by simpa using this⟩)
        refine ⟨ts, ?_, o1⟩
        rw [List.drop_zero, List.take_of_length_le (by omega)] at l1
        exact l1
      · cases h
    · cases h
end
end Tre
end Go.Proofs.Ytdhofaiogbpjpaa
