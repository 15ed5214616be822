/- A memory as it lies: its block, its bytes, what a store and a clear make of it; copies and clears of rows. -/
import Derived.Test.YtdhofaiogbpjpaaFrame
import Derived.Test.YtdhofaiogbpjpaaApM
import Derived.Test.YtdhofaiogbpjpaaVal
namespace Go.Proofs.Ytdhofaiogbpjpaa
open Go.RowKit Go.Joins
namespace Me
/-- Nothing that was there but block g has turned. -/
structure Mv (g : Nat) (w w' : World) : Prop where
  near : ∀ B, B ≤ g → B ≤ w.heap.size → Below B w w'
  far : ∀ b, b ≠ g → b < w.heap.size → w'.heap[b]? = w.heap[b]?
  size : w.heap.size ≤ w'.heap.size
theorem Mv.of {g : Nat} {w w' : World} (h : Below w.heap.size w w') : Mv g w w' := ⟨fun _ _ hw => h.mono hw, fun b _ hl => h.block b hl, h.size⟩
theorem Mv.refl (g : Nat) (w : World) : Mv g w w := Mv.of (Below.refl _ _)
theorem Mv.trans {g : Nat} {w w1 w2 : World} (h : Mv g w w1) (k : Mv g w1 w2) : Mv g w w2 :=
  ⟨fun B hB hw => (h.near B hB hw).trans (k.near B hB (Nat.le_trans hw h.size)), fun b hb hl => (k.far b hb (Nat.lt_of_lt_of_le hl h.size)).trans (h.far b hb hl), Nat.le_trans h.size k.size⟩
theorem Mv.setCell (g : Nat) (w : World) (i : Nat) (v : Value) : Mv g w (w.setCell ⟨g, i, none⟩ v) :=
  ⟨fun B hB _ => (Below.refl B w).setCell hB v, fun b hb _ => Below.heap_setCell w ⟨g, i, none⟩ v b hb, by simp⟩
theorem Mv.setRow (g : Nat) (w : World) (cs : Array Value) : Mv g w (w.setRow g cs) :=
  ⟨fun B hB _ => below_setRow (Below.refl B w) hB cs, fun b hb _ => setRow_other w g b cs hb, by simp [World.setRow]⟩
theorem BoxN.mv {W W' : World} {g b : Nat} {t : TypeId} {cs : Array Value} (h : BoxN W b t cs) (hk : Mv g W W') (hb : b ≠ g) : BoxN W' b t cs := (hk.far b hb h.lt).trans h

/-- The cells of a memory. -/
structure MemC (cs : Array Value) (A : Option Addr) (n c mem : Nat) (f : Nat → BitVec 8) : Prop where
  size : cs.size = 4099
  regs : cs[0]? = some (.slice A n c)
  made : cs[1]? = some (.bool true)
  mem : cs[2]? = some (.int .i64 (mem : Nat))
  byte : ∀ i, i < 4096 → cs[3 + i]? = some (U8 (f i))
theorem MemC.set {cs : Array Value} {A : Option Addr} {n c mem : Nat} {f : Nat → BitVec 8} (h : MemC cs A n c mem f) (i : Nat) (hi : i < 4096) (v : BitVec 8) : MemC (cs.setIfInBounds (3 + i) (U8 v)) A n c mem (fun j => if j = i then v else f j) :=
  ⟨by rw [Array.size_setIfInBounds]; exact h.size, by rw [Array.getElem?_setIfInBounds, if_neg (by omega)]; exact h.regs, by rw [Array.getElem?_setIfInBounds, if_neg (by omega)]; exact h.made, by rw [Array.getElem?_setIfInBounds, if_neg (by omega)]; exact h.mem, fun j hj => by
    rw [Array.getElem?_setIfInBounds]
    by_cases e : j = i
    · subst e
      have := h.size
      simp; omega
    · rw [if_neg (by omega), h.byte j hj]
      simp [e]⟩
theorem MemC.clear {cs : Array Value} {A : Option Addr} {n c mem : Nat} {f : Nat → BitVec 8} (h : MemC cs A n c mem f) (b s : Nat) (hs : b + s ≤ 4096) :
    MemC (cs.toList.take (3 + b) ++ List.replicate s (U8 0#8) ++ cs.toList.drop (3 + b + s)).toArray A n c mem (fun j => if b ≤ j ∧ j < b + s then 0#8 else f j) := by
  have hl : cs.toList.length = 4099 := by rw [Array.length_toList]; exact h.size
  have get : ∀ j, j < 4099 → (cs.toList.take (3 + b) ++ List.replicate s (U8 0#8) ++ cs.toList.drop (3 + b + s)).toArray[j]? = if 3 + b ≤ j ∧ j < 3 + b + s then some (U8 0#8) else cs[j]? := fun j hj => by
    rw [List.getElem?_toArray]
    by_cases h1 : j < 3 + b
    · rw [if_neg (by omega), List.append_assoc, List.getElem?_append_left (by rw [List.length_take]; omega), List.getElem?_take_of_lt h1, Array.getElem?_toList]
    · by_cases h2 : j < 3 + b + s
      · rw [if_pos ⟨by omega, h2⟩, List.getElem?_append_left (by rw [List.length_append, List.length_take, List.length_replicate]; omega), List.getElem?_append_right (by rw [List.length_take]; omega), List.getElem?_replicate, if_pos (by rw [List.length_take]; omega)]
      · rw [if_neg (by omega), List.getElem?_append_right (by rw [List.length_append, List.length_take, List.length_replicate]; omega), List.getElem?_drop, List.length_append, List.length_take, List.length_replicate, ← Array.getElem?_toList]
        congr 1
        omega
  refine ⟨by rw [List.size_toArray, List.length_append, List.length_append, List.length_take, List.length_replicate, List.length_drop]; omega, ?_, ?_, ?_, fun j hj => ?_⟩
  · rw [get 0 (by omega), if_neg (by omega)]; exact h.regs
  · rw [get 1 (by omega), if_neg (by omega)]; exact h.made
  · rw [get 2 (by omega), if_neg (by omega)]; exact h.mem
  · rw [get (3 + j) (by omega), h.byte j hj]
    by_cases e : b ≤ j ∧ j < b + s
    · rw [if_pos (by omega)]; simp [e]
    · rw [if_neg (by omega)]; simp [e]

/-- A memory in block g, its regions in a block from lo on: the regions L, mem bytes, the bytes f. -/
structure MemS (lo g : Nat) (L : List Rg) (mem : Nat) (f : Nat → BitVec 8) (W : World) : Prop where
  ex : ∃ (cs : Array Value) (A : Option Addr) (c : Nat), BoxN W g 63 cs ∧ MemC cs A L.length c mem f ∧ isG A L W ∧ ∀ a, A = some a → lo ≤ a.block ∧ a.block < g
theorem MemS.lt {lo g : Nat} {L : List Rg} {mem : Nat} {f : Nat → BitVec 8} {W : World} (h : MemS lo g L mem f W) : g < W.heap.size := by
  obtain ⟨cs, A, c, hb, -⟩ := h.ex
  exact hb.lt
theorem MemS.keep {lo g : Nat} {L : List Rg} {mem : Nat} {f : Nat → BitVec 8} {W W' : World} (h : MemS lo g L mem f W) (hb : Below W.heap.size W W') : MemS lo g L mem f W' := by
  obtain ⟨cs, A, c, h1, h2, h3, h4⟩ := h.ex
  exact ⟨cs, A, c, h1.keep hb, h2, h3.keep hb, h4⟩
/-- Another memory is another block. -/
theorem MemS.far {lo g g' : Nat} {L : List Rg} {mem : Nat} {f : Nat → BitVec 8} {W W' : World} (h : MemS lo g L mem f W) (hm : Mv g' W W') (hne : g ≠ g') (hlo : g' < lo ∨ g < g') : MemS lo g L mem f W' := by
  obtain ⟨cs, A, c, h1, h2, h3, h4⟩ := h.ex
  exact ⟨cs, A, c, BoxN.mv h1 hm hne, h2, h3.same fun a e hl => hm.far a.block (by have := h4 a e; omega) hl, h4⟩
theorem MemS.same {lo g : Nat} {L : List Rg} {mem : Nat} {f f' : Nat → BitVec 8} {W : World} (h : MemS lo g L mem f W) (he : ∀ i, i < 4096 → f i = f' i) : MemS lo g L mem f' W := by
  obtain ⟨cs, A, c, h1, h2, h3, h4⟩ := h.ex
  exact ⟨cs, A, c, h1, ⟨h2.size, h2.regs, h2.made, h2.mem, fun i hi => by rw [h2.byte i hi, he i hi]⟩, h3, h4⟩

/-! ### What the builtins do -/
theorem run_clear_row {P : Program} (w : World) (t e ty : TypeId) (z : Value) (ht : P.underlying t = some (.slice e)) (hv : ∀ w, (zeroValue e).run P w = .ok z w) (hz : z.cells = #[z]) (h1 : z.oneCell' = true) (g o n c : Nat) (cur : Array Value) (tt : TypeId)
    (hg : w.heap[g]? = some (.cells cur tt (0, 0))) (hfit : o + n ≤ cur.size) :
    (Builtin.clear_ #[t] ty #[.slice (some ⟨g, o, none⟩) n c]).run P w = .ok (.tuple #[]) (w.setRow g (cur.toList.take o ++ List.replicate n z ++ cur.toList.drop (o + n)).toArray) := by
  have hzc : (Builtin.zeroCells z.cells n).toList = List.replicate n z := by
    rw [hz]
    simp [Builtin.zeroCells]
    apply List.ext_getElem
    · simp
    · intro i h1 h2
      simp [Nat.mod_one]
  cases n with
  | zero =>
    rw [show (cur.toList.take o ++ List.replicate 0 z ++ cur.toList.drop (o + 0)).toArray = cur by simp, setRow_self w g cur tt (0, 0) hg]
    simp [Builtin.clear_, run_underlying ht]
  | succ m =>
    have hst := run_storeCells_at P g o tt (List.replicate (m + 1) z) 0 cur w hg (by simpa using hfit) (by intro v hv'; rw [List.eq_of_mem_replicate hv']; exact h1)
    simp only [Nat.add_zero, List.length_replicate] at hst
    simp [Builtin.clear_, run_underlying ht, hv, hzc, hst]
theorem run_copy_rowK {P : Program} (K : Nat) (w : World) (dT sT ty elem : TypeId) (g o dLen dCap : Nat) (a : Addr) (sLen sCap : Nat) (cur : Array Value) (t : TypeId) (cs : List Value)
    (hu : P.underlying dT = some (.slice elem)) (hs : (P.info? elem).map (·.size) = some K)
    (hg : w.heap[g]? = some (.cells cur t (0, 0))) (hn : cs.length = Nat.min sLen dLen * K)
    (hsrc : ∀ j v, cs[j]? = some v → w.cell? (a.add j) = some v) (hfit : o + cs.length ≤ cur.size) (h1 : ∀ v ∈ cs, v.oneCell' = true) :
    (Builtin.copy_ #[dT, sT] ty #[.slice (some ⟨g, o, none⟩) dLen dCap, .slice (some a) sLen sCap]).run P w =
      .ok (goInt (Nat.min sLen dLen)) (w.setRow g (cur.toList.take o ++ cs ++ cur.toList.drop (o + cs.length)).toArray) := by
  have hl := run_loadCells_list (P := P) w a cs hsrc
  have hst := run_storeCells_at P g o t cs 0 cur w hg (by simpa using hfit) h1
  cases hq : P.info? elem with
  | none => simp [hq] at hs
  | some i =>
    have hi : i.size = K := by simpa [hq] using hs
    simp [Builtin.copy_, run_underlying hu, Builtin.lenOf, Builtin.firstCells, sizeOf, typeInfo, hq, hi, ← hn, hl, hst]
end Me
end Go.Proofs.Ytdhofaiogbpjpaa
