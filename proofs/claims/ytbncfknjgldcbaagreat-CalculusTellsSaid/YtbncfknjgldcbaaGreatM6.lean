/- Merged texts: RStep. -/
import Derived.Test.YtbncfknjgldcbaaGreatM5
import Derived.Laws.AppendOwnNone
import Derived.Deep.AppendLies
import Derived.Deep.RegionLaw
/- Appending a part of a slice, which may be nil, to a row of the call's own. -/
namespace Go.Proofs.YtbncfknjgldcbaaGreat.Ref
open Go.RowKit

/-- What is appended: n elements with the cells news, behind an address or nil. -/
def Part (W : World) (v : Value) (m : Nat) (news : List Value) : Prop :=
  (v = .slice none 0 0 ∧ m = 0 ∧ news = []) ∨ ∃ ad c, v = .slice (some ad) m c ∧ ∀ j u, news[j]? = some u → W.cell? (ad.add j) = some u
theorem Part.form {W : World} {v : Value} {m : Nat} {news : List Value} (h : Part W v m news) : ∃ ao c, v = .slice ao m c := by
  rcases h with ⟨rfl, rfl, -⟩ | ⟨ad, c, rfl, -⟩
  · exact ⟨_, _, rfl⟩
  · exact ⟨_, _, rfl⟩
theorem app_part {P : Program} (w : World) {ops : Array Oper} {rest : List Oper} {o : Oper} {a : Act} {Q : Exit → Act → World → Prop} (hgd : o.guard = none) (s x : Operand) (t : TypeId)
    (ho : o.op = .call { callee := .builtin .append, args := #[s, x], argTypes := #[t, t] })
    (base : Nat) (e : TypeId) (i : TypeInfo) (z : Value) (size bytes : Nat) (ht : P.underlying t = some (.slice e)) (hi : P.info? e = some i) (hz : i.zero = some z)
    (hsize : i.size = size) (hby : i.bytes = bytes) (hzs : z.cells.size = size) (hsz : 0 < size)
    (g n cap : Nat) (xs : List Value) (hs : a.eval s = .slice (some ⟨g, 0, none⟩) n cap) (hown : w.ownsRow base e size (.slice (some ⟨g, 0, none⟩) n cap) n xs)
    (v : Value) (m : Nat) (news : List Value) (hx : a.eval x = v) (hp : Part w v m news) (hl : news.length = m * size) (h1 : ∀ u ∈ news, u.oneCell' = true)
    (h63 : n + m ≤ maxLen) (hbytes : (n + m) * bytes ≤ 140737488355328) (hbase : base ≤ w.heap.size)
    (h : ∀ g' cap' w', w'.ownsRow base e size (.slice (some ⟨g', 0, none⟩) (n + m) cap') (n + m) (xs ++ news) → w.grownBy w' (some g) → wpList P ops Q rest (a.put o.dst (.slice (some ⟨g', 0, none⟩) (n + m) cap')) w') : wpList P ops Q (o :: rest) a w := by
  rcases hp with ⟨rfl, rfl, rfl⟩ | ⟨ad, c, rfl, hc⟩
  · refine wpList_append_own_none hgd s x t ho base e i size ht hi _ n xs hs hown hx ?_
    have := h g cap w (by simpa using hown) (World.grownBy.refl _ _)
    simpa using this
  · refine wpList_append_own w hgd s x t ho base e i z size bytes ht hi hz hsize hby hzs hsz _ n xs hs hown ad m c news hx hl hc h1 h63 hbytes hbase fun v' w' h2 h3 h4 => ?_
    have hne : v' ≠ .slice none 0 0 := fun k => by
      have := (h4.1 k).1
      simp at this
    rcases h2.2 with ⟨k, _⟩ | ⟨g', cap', cur, rfl, _⟩
    · exact absurd k hne
    · exact h g' cap' w' h2 h3

/-- The same at a step of a region that draws its order. -/
theorem step_app {P : Program} {ops : Array Oper} {o : Oper} {a : Act} {w : World} {K : Act → World → Prop} {Q : Exit → Act → World → Prop} {E : Prop} (hgd : o.guard = none) (s x : Operand) (t : TypeId)
    (ho : o.op = .call { callee := .builtin .append, args := #[s, x], argTypes := #[t, t] })
    (base : Nat) (e : TypeId) (i : TypeInfo) (z : Value) (size bytes : Nat) (ht : P.underlying t = some (.slice e)) (hi : P.info? e = some i) (hz : i.zero = some z)
    (hsize : i.size = size) (hby : i.bytes = bytes) (hzs : z.cells.size = size) (hsz : 0 < size)
    (g n cap : Nat) (xs : List Value) (v : Value) (m : Nat) (news : List Value) (hs : a.eval s = .slice (some ⟨g, 0, none⟩) n cap) (hx : a.eval x = v) (hown : w.ownsRow base e size (.slice (some ⟨g, 0, none⟩) n cap) n xs)
    (hp : Part w v m news) (hl : news.length = m * size) (h1 : ∀ u ∈ news, u.oneCell' = true)
    (h63 : n + m ≤ maxLen) (hbytes : (n + m) * bytes ≤ 140737488355328) (hbase : base ≤ w.heap.size)
    (h : ∀ g' cap' w', w'.ownsRow base e size (.slice (some ⟨g', 0, none⟩) (n + m) cap') (n + m) (xs ++ news) → w.grownBy w' (some g) → K (a.put o.dst (.slice (some ⟨g', 0, none⟩) (n + m) cap')) w') :
    if Region.wanted o (yielded ops a.tmps) = true then Oper.wp P o a w K Q else E := by
  have hw : Region.wanted o (yielded ops a.tmps) = true := by simp [Region.wanted, hgd]
  rw [if_pos hw]
  rcases hp with ⟨rfl, rfl, rfl⟩ | ⟨ad, c, rfl, hc⟩
  · have hrun := run_append_owned_none (P := P) (w := w) base t o.type e i size ht hi _ n xs hown
    have this : K (a.put o.dst (.slice (some ⟨g, 0, none⟩) n cap)) w := by simpa using h g cap w (by simpa using hown) (World.grownBy.refl _ _)
    unfold Oper.wp
    simp [execOp, ho, resolve, invoke, builtin, hs, hx, hrun, Result.andThen]
    exact this
  · refine wp_append_own w s x t ho base e i z size bytes ht hi hz hsize hby hzs hsz _ n xs hs hown ad m c news hx hl hc h1 h63 hbytes hbase fun v' w' h2 h3 h4 => ?_
    have hne : v' ≠ .slice none 0 0 := fun k => by
      have := (h4.1 k).1
      simp at this
    rcases h2.2 with ⟨k, _⟩ | ⟨g', cap', cur, rfl, _⟩
    · exact absurd k hne
    · exact h g' cap' w' h2 h3
theorem own_empty {base : Nat} (W : World) (e : TypeId) (size g : Nat) (hg : W.heap.size = g) (hb : base ≤ g) : (W.alloc (.cells #[] e)).ownsRow base e size (.slice (some ⟨g, 0, none⟩) 0 0) 0 [] := by
  subst hg
  exact World.ownsRow_lit W #[] 0 hb (Nat.zero_le _) (by simp)
theorem part_block {W : World} {h : Nat} {cs : Array Value} {t : TypeId} {n c : Nat} (hb : W.heap[h]? = some (.cells cs t (0, 0))) : Part W (.slice (some ⟨h, 0, none⟩) n c) n cs.toList := .inr ⟨_, _, rfl, World.news_of_block hb⟩
theorem part_new (W : World) (cs : Array Value) (t : TypeId) (n c h : Nat) (hh : W.heap.size = h) : Part (W.alloc (.cells cs t)).drew (.slice (some ⟨h, 0, none⟩) n c) n cs.toList := by
  subst hh
  exact part_block (W := (W.alloc (.cells cs t)).drew) (heap_alloc_new W _)
theorem part_old (W : World) (cs : Array Value) (t : TypeId) (o : Obj) (n c h : Nat) (hh : W.heap.size = h) : Part ((W.alloc (.cells cs t)).alloc o).drew (.slice (some ⟨h, 0, none⟩) n c) n cs.toList := by
  subst hh
  refine part_block (W := ((W.alloc (.cells cs t)).alloc o).drew) (cs := cs) (t := t) ?_
  show ((W.alloc (.cells cs t)).alloc o).heap[W.heap.size]? = _
  rw [Below.heap_alloc _ _ _ (by simp)]
  exact heap_alloc_new W _
theorem Part.grown {W W' : World} {h g n c : Nat} {news : List Value} (hp : Part W (.slice (some ⟨h, 0, none⟩) n c) n news) (hg : W.grownBy W' (some g)) (hlt : h < W.heap.size) (hne : h ≠ g) : Part W' (.slice (some ⟨h, 0, none⟩) n c) n news := by
  rcases hp with ⟨k, -⟩ | ⟨ad, c', e, hc⟩
  · cases k
  · simp only [Value.slice.injEq, Option.some.injEq] at e
    obtain ⟨rfl, -, rfl⟩ := e
    refine .inr ⟨_, _, rfl, fun j u hu => ?_⟩
    have := hc j u hu
    have ha : ((⟨h, 0, none⟩ : Addr).add j) = ⟨h, j, none⟩ := by unfold Addr.add; split <;> simp_all
    rw [ha] at this ⊢
    rw [hg.cell_far ⟨h, j, none⟩ hlt (by simpa using hne)]
    exact this

end Go.Proofs.YtbncfknjgldcbaaGreat.Ref
