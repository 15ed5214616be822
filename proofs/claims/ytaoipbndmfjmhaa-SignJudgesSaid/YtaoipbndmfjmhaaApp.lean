/- Bytes as cells; append of any slice of bytes. -/
import Derived.Test.YtaoipbndmfjmhaaFin
import Derived.OwnWalk
import Derived.Laws.OwnMore
namespace Go.Proofs.Ytaoipbndmfjmhaa
open Go.RowKit Go.Joins

theorem infoB : (Try.prog.info? 5).map (fun i => (i.zero, i.size, i.bytes)) = some (some (.int .u8 0), 1, 1) := by kernel_rfl
/-- Bytes as cells. -/
def cellsB (l : List (BitVec 8)) : List Value := l.map U8
theorem cellsB_len (l : List (BitVec 8)) : (cellsB l).length = l.length := by simp [cellsB]
theorem cellsB_append (l m : List (BitVec 8)) : cellsB (l ++ m) = cellsB l ++ cellsB m := by simp [cellsB]
theorem cellsB_one (l : List (BitVec 8)) : ∀ u ∈ cellsB l, u.oneCell' = true := by
  intro u hu
  obtain ⟨b, _, rfl⟩ := List.mem_map.1 hu
  rfl
theorem cellsB_get (l : List (BitVec 8)) (k : Nat) : (cellsB l)[k]? = l[k]?.map U8 := by simp [cellsB]
/-- The cells that a slice of bytes reads, as the append's law wants them. -/
theorem isB.news {A : Option Addr} {l : List (BitVec 8)} {W : World} (h : isB A l W) : l.length ≠ 0 → ∃ ad, A = some ad ∧ ∀ j u, (cellsB l)[j]? = some u → W.cell? (ad.add j) = some u := fun hn => by
  obtain ⟨b, off, rfl, _, hr⟩ := h (by intro h; rw [h] at hn; simp at hn)
  refine ⟨_, rfl, fun j u hu => ?_⟩
  rw [cellsB_get] at hu
  obtain ⟨z, hz, rfl⟩ := Option.map_eq_some_iff.1 hu
  rw [Addr.add_lit]
  exact hr j z hz
/-- What the call's own row reads. -/
theorem isB_of_own {base : Nat} {W : World} {g : Option Addr} {n c : Nat} {l : List (BitVec 8)} (h : W.ownsRow base 5 1 (.slice g n c) n (cellsB l)) : isB g l W := fun hne => by
  have hlen : l.length = n := by have := h.1; rw [cellsB_len] at this; omega
  rcases h.2 with ⟨_, e⟩ | ⟨g', cap, cur, e, _, hg, _⟩
  · exact absurd (List.eq_nil_of_length_eq_zero (hlen.trans e)) hne
  · simp only [Value.slice.injEq] at e
    obtain ⟨rfl, _, _⟩ := e
    refine ⟨g', 0, rfl, (Array.getElem?_eq_some_iff.1 hg).1, fun k z hk => ?_⟩
    have := h.cells (g := g') rfl k (U8 z) (by rw [cellsB_get, hk]; rfl)
    rwa [Addr.add_lit] at this
theorem own_below {w w' : World} {base : Nat} {e : TypeId} {size n : Nat} {v : Value} {xs : List Value} (h : w.ownsRow base e size v n xs) (hb : Below w.heap.size w w') : w'.ownsRow base e size v n xs := by
  obtain ⟨h1, h2⟩ := h
  refine ⟨h1, ?_⟩
  rcases h2 with h2 | ⟨g, cap, cur, e1, e2, e3, e4⟩
  · exact .inl h2
  · exact .inr ⟨g, cap, cur, e1, e2, (hb.block g (Array.getElem?_eq_some_iff.1 e3).1).trans e3, e4⟩
theorem own_block_le {w : World} {base : Nat} {e : TypeId} {size n : Nat} {v : Value} {xs : List Value} (h : w.ownsRow base e size v n xs) : ∀ j, v.ownBlock = some j → base ≤ j := by
  intro j hj
  rcases h.2 with ⟨rfl, _⟩ | ⟨g, cap, cur, rfl, h2, _⟩
  · cases hj
  · cases hj; exact h2
theorem own_slice {w : World} {base : Nat} {e : TypeId} {size n : Nat} {v : Value} {xs : List Value} (h : w.ownsRow base e size v n xs) : ∃ g c, v = .slice g n c := by
  rcases h.2 with ⟨rfl, rfl⟩ | ⟨g, cap, cur, rfl, _⟩
  · exact ⟨_, _, rfl⟩
  · exact ⟨_, _, rfl⟩

theorem own_cap {w : World} {base : Nat} {e : TypeId} {size n c : Nat} {g : Option Addr} {xs : List Value} (h : w.ownsRow base e size (.slice g n c) n xs) : n ≤ c := by
  rcases h.2 with ⟨e1, e2⟩ | ⟨g', cap, cur, e, _, _, h4, _⟩
  · omega
  · simp only [Value.slice.injEq] at e
    obtain ⟨_, _, rfl⟩ := e
    exact h4

/-- A slice of length 0 adds nothing to a row of the call's own. -/
theorem app_any {P : Program} (w : World) {ops : Array Oper} {rest : List Oper} {o : Oper} {a : Act} {Q : Exit → Act → World → Prop} (hgd : o.guard = none) (s x : Operand) (t : TypeId)
    (ho : o.op = .call { callee := .builtin .append, args := #[s, x], argTypes := #[t, t] })
    (base : Nat) (e : TypeId) (i : TypeInfo) (z : Value) (size bytes : Nat) (ht : P.underlying t = some (.slice e)) (hi : P.info? e = some i) (hz : i.zero = some z)
    (hsize : i.size = size) (hby : i.bytes = bytes) (hzs : z.cells.size = size) (hsz : 0 < size)
    (sv : Value) (n : Nat) (xs : List Value) (hs : a.eval s = sv) (hown : w.ownsRow base e size sv n xs)
    (A : Option Addr) (m c : Nat) (news : List Value) (hx : a.eval x = .slice A m c) (hl : news.length = m * size) (hp : m ≠ 0 → ∃ ad, A = some ad ∧ ∀ j u, news[j]? = some u → w.cell? (ad.add j) = some u) (h1 : ∀ u ∈ news, u.oneCell' = true)
    (h63 : n + m ≤ maxLen) (hbytes : (n + m) * bytes ≤ 140737488355328) (hbase : base ≤ w.heap.size)
    (h : ∀ v' w', w'.ownsRow base e size v' (n + m) (xs ++ news) → w.grownBy w' sv.ownBlock → wpList P ops Q rest (a.put o.dst v') w') : wpList P ops Q (o :: rest) a w := by
  have h0 : m = 0 → news = [] := fun k => by subst k; exact List.eq_nil_of_length_eq_zero (by simpa using hl)
  rcases A with _ | ad
  · have hm : m = 0 := by
      by_cases k : m = 0
      · exact k
      · obtain ⟨_, h, _⟩ := hp k; cases h
    subst hm
    obtain rfl := h0 rfl
    have hrun : (Builtin.append_ #[t, t] o.type #[sv, .slice none 0 c]).run P w = .ok sv w := by
      rcases hown.2 with ⟨rfl, rfl⟩ | ⟨g, cap, cur, rfl, _, _, hnc, _⟩
      · simp [Builtin.append_, run_underlying ht, sizeOf, typeInfo, hi, Builtin.lenOf, Builtin.firstCells]
      · simp [Builtin.append_, run_underlying ht, sizeOf, typeInfo, hi, Builtin.lenOf, Builtin.firstCells, hnc, storeCells]
    refine wpList_plain hgd fun K hK => ?_
    unfold Oper.wp
    simp [execOp, ho, resolve, invoke, builtin, hs, hx, hrun, Result.andThen]
    exact hK _ _ (h sv w (by simpa using hown) (World.grownBy.refl _ _))
  · refine wpList_append_own w hgd s x t ho base e i z size bytes ht hi hz hsize hby hzs hsz sv n xs hs hown ad m c news hx hl ?_ h1 h63 hbytes hbase fun v' w' h2 h3 h4 => h v' w' h2 h3
    intro j u hu
    by_cases k : m = 0
    · rw [h0 k] at hu; simp at hu
    · obtain ⟨ad', e1, e2⟩ := hp k
      cases e1
      exact e2 j u hu

/-- An empty slice of one's own. -/
theorem own_empty {base : Nat} (W : World) (hb : base ≤ W.heap.size) : (W.alloc (.cells #[] 5)).ownsRow base 5 1 (.slice (some ⟨W.heap.size, 0, none⟩) 0 0) 0 [] :=
  World.ownsRow_lit W #[] 0 hb (by decide) rfl

/-- A slice that was just built of bytes. -/
theorem isB_lit (W : World) (l : List (BitVec 8)) (cs : Array Value) (h : cs.toList = cellsB l) (fr : Nat × Nat := (0, 0)) : isB (some ⟨W.heap.size, 0, none⟩) l (W.alloc (.cells cs 5 fr)) := fun _ =>
  ⟨W.heap.size, 0, rfl, by simp, fun k z hk => by
    rw [cell_of_row (W.alloc (.cells cs 5 fr)) W.heap.size (0 + k) cs 5 fr (heap_alloc_new W _), Nat.zero_add, ← Array.getElem?_toList, h, cellsB_get, hk]; rfl⟩
theorem isB.drop {b off : Nat} {l : List (BitVec 8)} {W : World} (h : isB (some ⟨b, off, none⟩) l W) (k : Nat) : isB (some ⟨b, off + k, none⟩) (l.drop k) W := fun hne => by
  obtain ⟨b', off', e, hb, hr⟩ := h (by intro e; rw [e] at hne; simp at hne)
  cases e
  exact ⟨b, off + k, rfl, hb, fun j z hj => by rw [Nat.add_assoc]; exact hr (k + j) z (by rw [List.getElem?_drop] at hj; exact hj)⟩

end Go.Proofs.Ytaoipbndmfjmhaa
