/- Rows of regions of the call's own. -/
import Derived.Test.YtdhofaiogbpjpaaRg
import Derived.Deep.AppendLies
import Derived.OwnWalk
namespace Go.Proofs.Ytdhofaiogbpjpaa
open Go.RowKit Go.Joins
namespace Me
section
variable {α : Type} {f : α → List Value} {n : Nat}
theorem fl_len (hf : ∀ x, (f x).length = n) : ∀ l : List α, (l.flatMap f).length = l.length * n
  | [] => by simp
  | x :: l => by
    rw [List.flatMap_cons, List.length_append, fl_len hf l, hf]
    simp [Nat.succ_mul, Nat.add_comm]
theorem fl_get (hf : ∀ x, (f x).length = n) : ∀ (l : List α) (j i : Nat) (x : α), l[j]? = some x → i < n → (l.flatMap f)[j * n + i]? = (f x)[i]?
  | [], j, i, x, h, _ => by simp at h
  | y :: l, 0, i, x, h, hi => by
    simp only [List.getElem?_cons_zero, Option.some.injEq] at h
    subst h
    rw [List.flatMap_cons, Nat.zero_mul, Nat.zero_add, List.getElem?_append_left (by rw [hf]; exact hi)]
  | y :: l, j + 1, i, x, h, hi => by
    simp only [List.getElem?_cons_succ] at h
    rw [List.flatMap_cons, List.getElem?_append_right (by rw [hf, Nat.succ_mul]; omega), hf, ← fl_get hf l j i x h hi]
    congr 1
    rw [Nat.succ_mul]; omega
theorem fl_inv (hn : 0 < n) (hf : ∀ x, (f x).length = n) (l : List α) (j : Nat) (v : Value) (h : (l.flatMap f)[j]? = some v) : ∃ x, l[j / n]? = some x ∧ (f x)[j % n]? = some v := by
  have hj : j < l.length * n := by
    have := (List.getElem?_eq_some_iff.1 h).1
    rwa [fl_len hf] at this
  have h1 : j / n < l.length := (Nat.div_lt_iff_lt_mul hn).2 hj
  have h2 : j % n < n := Nat.mod_lt _ hn
  refine ⟨_, List.getElem?_eq_getElem h1, ?_⟩
  rw [← fl_get hf l (j / n) (j % n) _ (List.getElem?_eq_getElem h1) h2, Nat.mul_comm, Nat.div_add_mod]
  exact h
end
def rgL (x : Rg) : List Value := [.int .i64 x.p, .int .i64 x.b, .int .i64 x.s]
def cellsG (l : List Rg) : List Value := l.flatMap rgL
theorem rgL_len (x : Rg) : (rgL x).length = 3 := rfl
theorem cellsG_len (l : List Rg) : (cellsG l).length = l.length * 3 := fl_len rgL_len l
theorem cellsG_append (l m : List Rg) : cellsG (l ++ m) = cellsG l ++ cellsG m := by simp [cellsG]
theorem cellsG_one (l : List Rg) : ∀ u ∈ cellsG l, u.oneCell' = true := by
  intro u hu
  obtain ⟨b, _, h⟩ := List.mem_flatMap.1 hu
  simp only [rgL, List.mem_cons, List.not_mem_nil, or_false] at h
  rcases h with rfl | rfl | rfl <;> rfl
theorem infoG : (Try.prog.info? 45).map (fun i => (i.zero, i.size, i.bytes)) = some (some (.agg #[.int .i64 0, .int .i64 0, .int .i64 0]), 3, 24) := by kernel_rfl
/-- Cells that lie in a row are regions. -/
theorem isG_of_cells {b off : Nat} {l : List Rg} {W : World} (hb : b < W.heap.size) (h : ∀ j u, (cellsG l)[j]? = some u → W.cell? ⟨b, off + j, none⟩ = some u) : isG (some ⟨b, off, none⟩) l W := fun _ => by
  refine ⟨b, off, rfl, hb, fun k x hk => ?_⟩
  have g := fun i => fl_get rgL_len l k i x hk
  refine ⟨?_, ?_, ?_⟩
  · exact h (k * 3) _ ((g 0 (by decide)).trans rfl)
  · rw [Nat.add_assoc]; exact h (k * 3 + 1) _ ((g 1 (by decide)).trans rfl)
  · rw [Nat.add_assoc]; exact h (k * 3 + 2) _ ((g 2 (by decide)).trans rfl)
theorem isG.cells {A : Option Addr} {l : List Rg} {W : World} (h : isG A l W) (hne : l ≠ []) : ∃ b off, A = some ⟨b, off, none⟩ ∧ b < W.heap.size ∧ ∀ j u, (cellsG l)[j]? = some u → W.cell? ⟨b, off + j, none⟩ = some u := by
  obtain ⟨b, off, e, hb, hr⟩ := h hne
  refine ⟨b, off, e, hb, fun j u hu => ?_⟩
  obtain ⟨x, hx, hv⟩ := fl_inv (by decide) rgL_len l j u hu
  obtain ⟨h0, h1, h2⟩ := hr _ x hx
  have hm : j % 3 < 3 := Nat.mod_lt _ (by decide)
  have hj : j = j / 3 * 3 + j % 3 := by omega
  have : j % 3 = 0 ∨ j % 3 = 1 ∨ j % 3 = 2 := by omega
  rw [hj]
  rcases this with e | e | e <;> rw [e] at hv ⊢ <;> cases hv
  · exact h0
  · rw [← Nat.add_assoc]; exact h1
  · rw [← Nat.add_assoc]; exact h2
/-- The cells that a slice of regions reads, as the append's law wants them. -/
theorem isG.news {A : Option Addr} {l : List Rg} {W : World} (h : isG A l W) : l.length ≠ 0 → ∃ ad, A = some ad ∧ ∀ j u, (cellsG l)[j]? = some u → W.cell? (ad.add j) = some u := fun hn => by
  obtain ⟨b, off, rfl, _, hr⟩ := h.cells (by intro h; rw [h] at hn; simp at hn)
  refine ⟨_, rfl, fun j u hu => ?_⟩
  rw [Addr.add_lit]
  exact hr j u hu
/-- What the call's own row reads. -/
theorem isG_of_own {base : Nat} {W : World} {g : Option Addr} {n c : Nat} {l : List Rg} (h : W.ownsRow base 45 3 (.slice g n c) n (cellsG l)) : isG g l W := fun hne => by
  have hlen : l.length = n := by have := h.1; rw [cellsG_len] at this; omega
  rcases h.2 with ⟨_, e⟩ | ⟨g', cap, cur, e, _, hg, _⟩
  · exact absurd (List.eq_nil_of_length_eq_zero (hlen.trans e)) hne
  · simp only [Value.slice.injEq] at e
    obtain ⟨rfl, _, _⟩ := e
    refine isG_of_cells (Array.getElem?_eq_some_iff.1 hg).1 (fun j u hu => ?_) hne
    have := h.cells (g := g') rfl j u hu
    rwa [Addr.add_lit] at this
theorem BoxN.grown' {W W' : World} {b : Nat} {t : TypeId} {cs : Array Value} {row : Option Nat} (h : BoxN W b t cs) (hg : W.grownBy W' row) (hne : some b ≠ row) : BoxN W' b t cs := (hg.block b h.lt hne).trans h
theorem own_lt {w : World} {base : Nat} {e : TypeId} {size n : Nat} {v : Value} {xs : List Value} (h : w.ownsRow base e size v n xs) : ∀ j, v.ownBlock = some j → j < w.heap.size := by
  intro j hj
  rcases h.2 with ⟨rfl, _⟩ | ⟨g, cap, cur, rfl, _, h3, _⟩
  · cases hj
  · cases hj; exact (Array.getElem?_eq_some_iff.1 h3).1
/-- A slice of length 0 adds nothing to a row of the call's own. -/
theorem app_any {P : Program} (w : World) {ops : Array Oper} {rest : List Oper} {o : Oper} {a : Act} {Q : Exit → Act → World → Prop} (hgd : o.guard = none) (s x : Operand) (t : TypeId)
    (ho : o.op = .call { callee := .builtin .append, args := #[s, x], argTypes := #[t, t] })
    (base : Nat) (e : TypeId) (i : TypeInfo) (z : Value) (size bytes : Nat) (ht : P.underlying t = some (.slice e)) (hi : P.info? e = some i) (hz : i.zero = some z)
    (hsize : i.size = size) (hby : i.bytes = bytes) (hzs : z.cells.size = size) (hsz : 0 < size)
    (sv : Value) (n : Nat) (xs : List Value) (hs : a.eval s = sv) (hown : w.ownsRow base e size sv n xs)
    (A : Option Addr) (m c : Nat) (news : List Value) (hx : a.eval x = .slice A m c) (hl : news.length = m * size) (hp : m ≠ 0 → ∃ ad, A = some ad ∧ ∀ j u, news[j]? = some u → w.cell? (ad.add j) = some u) (h1 : ∀ u ∈ news, u.oneCell' = true)
    (h63 : n + m ≤ maxLen) (hbytes : (n + m) * bytes ≤ 140737488355328) (hbase : base ≤ w.heap.size)
    (h : ∀ v' w', w'.ownsRow base e size v' (n + m) (xs ++ news) → w.grownBy w' sv.ownBlock → wpList P ops Q rest (a.put o.dst v') w') : wpList P ops Q (o :: rest) a w := by
  have h0 : m = 0 → news = [] := fun k => by subst k; exact List.eq_nil_of_length_eq_zero (by simpa using hl)
  rcases A with _ | ad
  · have hm : m = 0 := by
      by_cases k : m = 0
      · exact k
      · obtain ⟨_, h, _⟩ := hp k; cases h
    subst hm
    obtain rfl := h0 rfl
    have hrun : (Builtin.append_ #[t, t] o.type #[sv, .slice none 0 c]).run P w = .ok sv w := by
      rcases hown.2 with ⟨rfl, rfl⟩ | ⟨g, cap, cur, rfl, _, _, hnc, _⟩
      · simp [Builtin.append_, run_underlying ht, sizeOf, typeInfo, hi, Builtin.lenOf, Builtin.firstCells]
      · simp [Builtin.append_, run_underlying ht, sizeOf, typeInfo, hi, Builtin.lenOf, Builtin.firstCells, hnc, storeCells]
    refine wpList_plain hgd fun K hK => ?_
    unfold Oper.wp
    simp [execOp, ho, resolve, invoke, builtin, hs, hx, hrun, Result.andThen]
    exact hK _ _ (h sv w (by simpa using hown) (World.grownBy.refl _ _))
  · refine wpList_append_own w hgd s x t ho base e i z size bytes ht hi hz hsize hby hzs hsz sv n xs hs hown ad m c news hx hl ?_ h1 h63 hbytes hbase fun v' w' h2 h3 h4 => h v' w' h2 h3
    intro j u hu
    by_cases k : m = 0
    · rw [h0 k] at hu; simp at hu
    · obtain ⟨ad', e1, e2⟩ := hp k
      cases e1
      exact e2 j u hu

end Me
end Go.Proofs.Ytdhofaiogbpjpaa
