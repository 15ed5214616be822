/- Merged texts: CGpM. -/
import Derived.Test.YtbncfknjgldcbaaGreatM14
import Derived.Maps.OwnIn
/- What gaps hands on; sets of numbers as maps. -/
namespace Go.Proofs.YtbncfknjgldcbaaGreat
open Go.RowKit Go.Joins

/-- The differences from one last frame: those above h, each that is not there yet. -/
def innerL (T h : Int) : List Int → List Sn → List Int
  | acc, [] => acc
  | acc, f :: r => if T - f.t ≤ h then acc else innerL T h (if acc.contains (T - f.t) then acc else acc ++ [T - f.t]) r
def outerL (h : Int) (l : List Sn) (ps : List (Nat × Sn)) (acc : List Int) : List Int := ps.foldl (fun a p => innerL p.2.t h a l) acc
/-- What gaps hands on. -/
def gapsL (l : List Sn) (h : Int) : List Int := outerL h l (backL l l.length) []
theorem innerL_pre (T h : Int) : ∀ (r : List Sn) (acc : List Int), acc <+: innerL T h acc r
  | [], acc => List.prefix_refl _
  | f :: r, acc => by
    rw [innerL]
    split
    · exact List.prefix_refl _
    · split
      · exact innerL_pre T h r acc
      · exact (List.prefix_append acc [T - f.t]).trans (innerL_pre T h r _)
theorem outerL_pre (h : Int) (l : List Sn) : ∀ (ps : List (Nat × Sn)) (acc : List Int), acc <+: outerL h l ps acc
  | [], _ => List.prefix_refl _
  | p :: ps, acc => (innerL_pre p.2.t h l acc).trans (outerL_pre h l ps _)
theorem innerL_mem (T h : Int) : ∀ (r : List Sn) (acc : List Int) (g : Int), g ∈ innerL T h acc r → g ∈ acc ∨ ∃ f ∈ r, g = T - f.t ∧ h < g
  | [], acc, g, hg => .inl hg
  | f :: r, acc, g, hg => by
    rw [innerL] at hg
    split at hg
    · exact .inl hg
    · rename_i h1
      rcases innerL_mem T h r _ g hg with h2 | ⟨f', hf', e⟩
      · split at h2
        · exact .inl h2
        · rcases List.mem_append.1 h2 with h3 | h3
          · exact .inl h3
          · rw [List.mem_singleton] at h3
            exact .inr ⟨f, List.mem_cons_self, h3, by omega⟩
      · exact .inr ⟨f', List.mem_cons_of_mem _ hf', e⟩
theorem innerL_all (T h : Int) : ∀ (r : List Sn) (acc : List Int), r.Pairwise (fun x y => x.t ≤ y.t) → ∀ f ∈ r, h < T - f.t → T - f.t ∈ innerL T h acc r
  | [], _, _, f, hf, _ => by cases hf
  | y :: r, acc, hp, f, hf, hgt => by
    obtain ⟨h1, h2⟩ := List.pairwise_cons.1 hp
    have hy : y.t ≤ f.t := by
      rcases List.mem_cons.1 hf with rfl | hf
      · exact Int.le_refl _
      · exact h1 f hf
    rw [innerL, if_neg (by omega)]
    rcases List.mem_cons.1 hf with rfl | hf
    · refine (innerL_pre T h r _).subset ?_
      split
      · rename_i h3
        exact List.contains_iff_mem.1 h3
      · simp
    · exact innerL_all T h r _ h2 f hf hgt
theorem outerL_mem (h : Int) (l : List Sn) : ∀ (ps : List (Nat × Sn)) (acc : List Int) (g : Int), g ∈ outerL h l ps acc → g ∈ acc ∨ ∃ p ∈ ps, ∃ f ∈ l, g = p.2.t - f.t ∧ h < g
  | [], acc, g, hg => .inl hg
  | p :: ps, acc, g, hg => by
    rcases outerL_mem h l ps _ g hg with h1 | ⟨q, hq, e⟩
    · rcases innerL_mem p.2.t h l acc g h1 with h2 | ⟨f, hf, e⟩
      · exact .inl h2
      · exact .inr ⟨p, List.mem_cons_self, f, hf, e⟩
    · exact .inr ⟨q, List.mem_cons_of_mem _ hq, e⟩
theorem outerL_all (h : Int) (l : List Sn) (hp : l.Pairwise (fun x y => x.t ≤ y.t)) : ∀ (ps : List (Nat × Sn)) (acc : List Int), ∀ p ∈ ps, ∀ f ∈ l, h < p.2.t - f.t → p.2.t - f.t ∈ outerL h l ps acc
  | [], _, p, hq, _, _, _ => by cases hq
  | q :: ps, acc, p, hq, f, hf, hgt => by
    rcases List.mem_cons.1 hq with rfl | hq
    · exact (outerL_pre h l ps _).subset (innerL_all p.2.t h l acc hp f hf hgt)
    · exact outerL_all h l hp ps _ p hq f hf hgt
theorem backL_has {l : List Sn} : ∀ {n : Nat} {k : Nat} {x : Sn}, n ≤ l.length → k < n → l[k]? = some x → (k, x) ∈ backL l n
  | 0, _, _, _, h, _ => by omega
  | n + 1, k, x, hn, hk, hx => by
    rw [backL]
    by_cases e : k = n
    · subst e
      rw [List.getD_eq_getElem?_getD, hx]
      exact List.mem_cons_self
    · exact List.mem_cons_of_mem _ (backL_has (by omega) (by omega) hx)
theorem gapsL_mem {l : List Sn} {h g : Int} (hg : g ∈ gapsL l h) : ∃ (i k : Nat) (x y : Sn), l[i]? = some x ∧ l[k]? = some y ∧ g = y.t - x.t ∧ h < g := by
  rcases outerL_mem h l _ _ g hg with h1 | ⟨p, hp, f, hf, e, h2⟩
  · cases h1
  · obtain ⟨i, hi⟩ := List.getElem?_of_mem hf
    exact ⟨i, p.1, f, p.2, hi, backL_mem (Nat.le_refl _) hp, e, h2⟩
theorem gapsL_all {l : List Sn} (hp : l.Pairwise (fun x y => x.t ≤ y.t)) {h : Int} {i k : Nat} {x y : Sn} (hx : l[i]? = some x) (hy : l[k]? = some y) (hgt : h < y.t - x.t) : y.t - x.t ∈ gapsL l h :=
  outerL_all h l hp _ _ (k, y) (backL_has (Nat.le_refl _) (List.getElem?_eq_some_iff.1 hy).1 hy) x (List.mem_of_getElem? hx) hgt
theorem outerL_snoc (h : Int) (l : List Sn) (ps : List (Nat × Sn)) (p : Nat × Sn) (acc : List Int) : outerL h l (ps ++ [p]) acc = innerL p.2.t h (outerL h l ps acc) l := by
  unfold outerL; rw [List.foldl_append]; rfl
theorem outerL_part {h : Int} {l : List Sn} {ps qs : List (Nat × Sn)} (hq : ps <+: qs) : outerL h l ps [] <+: outerL h l qs [] := by
  obtain ⟨t, rfl⟩ := hq
  unfold outerL
  rw [List.foldl_append]
  exact outerL_pre h l t _
theorem backL_length (l : List Sn) : ∀ n, (backL l n).length = n
  | 0 => rfl
  | n + 1 => by rw [backL, List.length_cons, backL_length l n]

/-- The map at block b is the set of the numbers acc, filled by n stores. -/
def MapS (W : World) (b n : Nat) (acc : List Int) : Prop := ∃ D : DataW Unit, W.ownsMap Tryz.prog 3 (plainElem Tryz.prog 4) b n D ∧ ∀ g : Int, (Lit.int .i64 g).wf = true → D.atKey (.int .i64 g) (.lit (.bool false)) = .lit (.bool (acc.contains g))
theorem MapS.lt {W : World} {b n : Nat} {acc : List Int} (h : MapS W b n acc) : b < W.heap.size := by obtain ⟨D, h, -⟩ := h; exact h.lt
theorem MapS.mono {W : World} {b n m : Nat} {acc : List Int} (h : MapS W b n acc) (hn : n ≤ m) : MapS W b m acc := by obtain ⟨D, h, k⟩ := h; exact ⟨D, h.mono hn, k⟩
theorem MapS.block {W W' : World} {b n : Nat} {acc : List Int} (h : MapS W b n acc) (hb : W'.heap[b]? = W.heap[b]?) : MapS W' b n acc := by
  obtain ⟨D, ⟨es, clock, hx, F, hs, hD⟩, k⟩ := h
  exact ⟨D, ⟨es, clock, hb.trans hx, F, hs, hD⟩, k⟩
theorem MapS.made (w : World) : MapS (w.alloc (.map #[] 0)) w.heap.size 0 [] := ⟨.map [], World.ownsMap_made _ _ _ _, fun _ _ => rfl⟩
theorem zeroB (w : World) : (zeroValue 4).run Tryz.prog w = .ok (.bool false) w := by kernel_rfl
theorem plainElem_bool_inv {H : Type} {P : Program} {e : TypeId} (he : P.underlying e = some .bool) {v : Value} {z : DataW H × List MemPlace} (h : plainElem P e v = some z) : ∃ x, v = .bool x ∧ z = (.lit (.bool x), []) := by
  unfold plainElem at h
  rw [he] at h
  cases v <;> simp at h
  exact ⟨_, rfl, h.symm⟩
theorem MapS.look {W : World} {b n : Nat} {acc : List Int} (h : MapS W b n acc) {g : Int} (hg : (Lit.int .i64 g).wf = true) : (Instr.lookup 151 (.map (some b)) (.int .i64 g) false).run Tryz.prog W = .ok (.bool (acc.contains g)) W := by
  obtain ⟨D, h, k⟩ := h
  obtain ⟨v, ps, hrun, hv⟩ := h.lookup (Maps.int_keyed Tryz.underlying3) Tryz.underlying151 (zeroB W) (plainElem_bool Tryz.underlying4 false) (Maps.keyOf_int_mk Tryz.underlying3 hg)
  obtain ⟨x, rfl, hx⟩ := plainElem_bool_inv Tryz.underlying4 hv
  have := k g hg
  rw [(Prod.mk.inj hx).1] at this
  simp only [DataW.lit.injEq, Lit.bool.injEq] at this
  rw [hrun, this]
theorem MapS.store {W : World} {b n : Nat} {acc : List Int} (h : MapS W b n acc) (hn : n < maxLen) {g : Int} (hg : (Lit.int .i64 g).wf = true) : ∃ W', (Instr.mapUpdate 151 (.map (some b)) (.int .i64 g) (.bool true)).run Tryz.prog W = .ok () W' ∧ MapS W' b (n + 1) (if acc.contains g then acc else acc ++ [g]) ∧ W.grownBy W' (some b) := by
  obtain ⟨D, h, k⟩ := h
  have hm := h.isMap
  obtain ⟨W', hrun, h2, hgr⟩ := h.update (Maps.int_keyed Tryz.underlying3) Tryz.underlying151 hn (Maps.keyOf_int_mk Tryz.underlying3 hg) (plainElem_bool Tryz.underlying4 true)
  refine ⟨W', hrun, ⟨_, h2, fun z hz => ?_⟩, hgr⟩
  by_cases e : z = g
  · subst e
    rw [Maps.atKey_put_same hm (by trivial)]
    split
    · rename_i h3; rw [h3]
    · simp
  · rw [Maps.atKey_put_other (by intro h; apply e; cases h; rfl), k z hz]
    split
    · rfl
    · simp [e]
theorem yield_any {m m' : Nat} {P : Program} {l : Nat} {args : Array Value} {W : World} {R : Ending → World → Prop} (h : YieldAt Fence.wide m P l args W R) : YieldAt Fence.wide m' P l args W R := by
  obtain ⟨fn, tmps, assign, body, hy, hr⟩ := h
  exact ⟨fn, tmps, assign, body, hy, hr.1, fun c cs _ => hr.2 c cs (room_wide _)⟩
end Go.Proofs.YtbncfknjgldcbaaGreat
