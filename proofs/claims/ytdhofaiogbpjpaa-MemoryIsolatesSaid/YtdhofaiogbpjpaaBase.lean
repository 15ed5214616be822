/- What the texts of lex share: blocks known whole, words and bytes as the program has them. -/
import Derived.Test.YtdhofaiogbpjpaaMemM
import Derived.WalkKit
import Derived.WalkSpells
import Derived.WalkLawsBesides
import Derived.LoopTactic
import Derived.RegionTactic
import Derived.Deep.QuietTactic
import Derived.BigQuiet
import Derived.Handy
import Derived.Lib.Hide
import Derived.WalkSmall
import Derived.Carry
import Derived.Lib.SmallJoins
import Derived.Outline
import Derived.Below
import Derived.IntWalk
import Derived.Laws.Rows
import Derived.Laws.CopyOwn
import Derived.Laws.EntriesVeiled
import Derived.Laws.BitsAllLaws
import Derived.Great.BuildSlice
import Derived.RangeFuncRecord
import Derived.Deep.RegionWith
import Derived.Deep.RegionLaw
import Derived.Deep.AppendLies
import Derived.Deep.DeepCutAuto
import Derived.Deep.RegionHeld3
import Derived.BigGuardPart
import Derived.Laws.BytesString
import Derived.OwnWalk
import Derived.Laws.OwnMore
namespace Go.Proofs.Ytdhofaiogbpjpaa
open Go.RowKit Go.Joins

/-- A word as the program has it. -/
abbrev U64 (x : BitVec 64) : Value := .int .u64 (x.toNat : Int)
abbrev U8 (x : BitVec 8) : Value := .int .u8 (x.toNat : Int)

/-- Block b holds just these cells. -/
def BoxN (W : World) (B : Nat) (t : TypeId) (cs : Array Value) : Prop := W.heap[B]? = some (.cells cs t (0, 0))
section
variable {W W' : World} {B : Nat} {t : TypeId} {cs : Array Value}
theorem BoxN.lt (h : BoxN W B t cs) : B < W.heap.size := (Array.getElem?_eq_some_iff.1 h).1
theorem BoxN.cell (h : BoxN W B t cs) (i : Nat) : W.cell? ⟨B, i, none⟩ = cs[i]? := by
  unfold BoxN at h; simp [World.cell?, h]
theorem BoxN.frozen (h : BoxN W B t cs) (i : Nat) : W.frozen? ⟨B, i, none⟩ = false := by
  unfold BoxN at h; simp [World.frozen?, h]
theorem BoxN.new (W : World) (t : TypeId) (cs : Array Value) : BoxN (W.alloc (.cells cs t)) W.heap.size t cs := heap_alloc_new W _
theorem BoxN.alloc (h : BoxN W B t cs) (o : Obj) : BoxN (W.alloc o) B t cs := (heap_alloc_old W o h.lt).trans h
theorem BoxN.drew (h : BoxN W B t cs) : BoxN W.drew B t cs := h
theorem BoxN.drewN (h : BoxN W B t cs) (n : Nat) : BoxN (W.drewN n) B t cs := ((below_drewN (Below.refl W.heap.size W) n).block B h.lt).trans h
theorem BoxN.below {n₀ : Nat} (h : BoxN W B t cs) (hb : Below n₀ W W') (hB : B < n₀) : BoxN W' B t cs := (hb.block B hB).trans h
theorem BoxN.keep (h : BoxN W B t cs) (hb : Below W.heap.size W W') : BoxN W' B t cs := h.below hb h.lt
theorem BoxN.set1 (i : Nat) (u : Value) (h : BoxN W B t cs) : BoxN (W.setCell ⟨B, i, none⟩ u) B t (cs.setIfInBounds i u) := by
  unfold BoxN at h ⊢
  simp [World.setCell, Array.getElem?_modify, h]
theorem BoxN.far (h : BoxN W B t cs) {p : Addr} (hp : B ≠ p.block) (u : Value) : BoxN (W.setCell p u) B t cs := (Below.heap_setCell W p u B hp).trans h
theorem BoxN.setRow (h : BoxN W B t cs) (ds : Array Value) : BoxN (W.setRow B ds) B t ds := setRow_heap W B cs ds t (0, 0) h
theorem BoxN.farRow (h : BoxN W B t cs) {g : Nat} (hg : B ≠ g) (ds : Array Value) : BoxN (W.setRow g ds) B t cs := (setRow_other W g B ds hg).trans h
end
/-- The bytes that a slice reads. -/
def isB (A : Option Addr) (l : List (BitVec 8)) (W : World) : Prop := l ≠ [] → ∃ b off, A = some ⟨b, off, none⟩ ∧ b < W.heap.size ∧ ∀ k z, l[k]? = some z → W.cell? ⟨b, off + k, none⟩ = some (U8 z)
theorem isB.keep {A : Option Addr} {l : List (BitVec 8)} {w w' : World} (h : isB A l w) (hb : Below w.heap.size w w') : isB A l w' := fun hz => by
  obtain ⟨b, off, e, hl, hr⟩ := h hz
  exact ⟨b, off, e, Nat.lt_of_lt_of_le hl hb.size, fun k z hk => (hb.cell (p := ⟨b, off + k, none⟩) hl).trans (hr k z hk)⟩
theorem isB.nil (A : Option Addr) (W : World) : isB A [] W := fun h => absurd rfl h

theorem take_snoc' {α : Type} {l : List α} {k : Nat} {x : α} (h : l[k]? = some x) : l.take (k + 1) = l.take k ++ [x] := by
  rw [List.take_add_one, h]; rfl
theorem infoB : (Try.prog.info? 5).map (fun i => (i.zero, i.size, i.bytes)) = some (some (.int .u8 0), 1, 1) := by kernel_rfl
/-- Bytes as cells. -/
def cellsB (l : List (BitVec 8)) : List Value := l.map U8
theorem cellsB_len (l : List (BitVec 8)) : (cellsB l).length = l.length := by simp [cellsB]
theorem cellsB_append (l m : List (BitVec 8)) : cellsB (l ++ m) = cellsB l ++ cellsB m := by simp [cellsB]
theorem cellsB_one (l : List (BitVec 8)) : ∀ u ∈ cellsB l, u.oneCell' = true := by
  intro u hu
  obtain ⟨b, _, rfl⟩ := List.mem_map.1 hu
  rfl
theorem cellsB_get (l : List (BitVec 8)) (k : Nat) : (cellsB l)[k]? = l[k]?.map U8 := by simp [cellsB]
/-- The cells that a slice of bytes reads, as the append's law wants them. -/
theorem isB.news {A : Option Addr} {l : List (BitVec 8)} {W : World} (h : isB A l W) : l.length ≠ 0 → ∃ ad, A = some ad ∧ ∀ j u, (cellsB l)[j]? = some u → W.cell? (ad.add j) = some u := fun hn => by
  obtain ⟨b, off, rfl, _, hr⟩ := h (by intro h; rw [h] at hn; simp at hn)
  refine ⟨_, rfl, fun j u hu => ?_⟩
  rw [cellsB_get] at hu
  obtain ⟨z, hz, rfl⟩ := Option.map_eq_some_iff.1 hu
  rw [Addr.add_lit]
  exact hr j z hz
/-- What the call's own row reads. -/
theorem isB_of_own {base : Nat} {W : World} {g : Option Addr} {n c : Nat} {l : List (BitVec 8)} (h : W.ownsRow base 5 1 (.slice g n c) n (cellsB l)) : isB g l W := fun hne => by
  have hlen : l.length = n := by have := h.1; rw [cellsB_len] at this; omega
  rcases h.2 with ⟨_, e⟩ | ⟨g', cap, cur, e, _, hg, _⟩
  · exact absurd (List.eq_nil_of_length_eq_zero (hlen.trans e)) hne
  · simp only [Value.slice.injEq] at e
    obtain ⟨rfl, _, _⟩ := e
    refine ⟨g', 0, rfl, (Array.getElem?_eq_some_iff.1 hg).1, fun k z hk => ?_⟩
    have := h.cells (g := g') rfl k (U8 z) (by rw [cellsB_get, hk]; rfl)
    rwa [Addr.add_lit] at this
theorem own_below {w w' : World} {base : Nat} {e : TypeId} {size n : Nat} {v : Value} {xs : List Value} (h : w.ownsRow base e size v n xs) (hb : Below w.heap.size w w') : w'.ownsRow base e size v n xs := by
  obtain ⟨h1, h2⟩ := h
  refine ⟨h1, ?_⟩
  rcases h2 with h2 | ⟨g, cap, cur, e1, e2, e3, e4⟩
  · exact .inl h2
  · exact .inr ⟨g, cap, cur, e1, e2, (hb.block g (Array.getElem?_eq_some_iff.1 e3).1).trans e3, e4⟩
theorem own_block_le {w : World} {base : Nat} {e : TypeId} {size n : Nat} {v : Value} {xs : List Value} (h : w.ownsRow base e size v n xs) : ∀ j, v.ownBlock = some j → base ≤ j := by
  intro j hj
  rcases h.2 with ⟨rfl, _⟩ | ⟨g, cap, cur, rfl, h2, _⟩
  · cases hj
  · cases hj; exact h2
theorem own_slice {w : World} {base : Nat} {e : TypeId} {size n : Nat} {v : Value} {xs : List Value} (h : w.ownsRow base e size v n xs) : ∃ g c, v = .slice g n c := by
  rcases h.2 with ⟨rfl, rfl⟩ | ⟨g, cap, cur, rfl, _⟩
  · exact ⟨_, _, rfl⟩
  · exact ⟨_, _, rfl⟩

theorem own_cap {w : World} {base : Nat} {e : TypeId} {size n c : Nat} {g : Option Addr} {xs : List Value} (h : w.ownsRow base e size (.slice g n c) n xs) : n ≤ c := by
  rcases h.2 with ⟨e1, e2⟩ | ⟨g', cap, cur, e, _, _, h4, _⟩
  · omega
  · simp only [Value.slice.injEq] at e
    obtain ⟨_, _, rfl⟩ := e
    exact h4

/-- Bytes as a string. -/
def bstr (l : List (BitVec 8)) : ByteArray := ⟨(l.map fun b => UInt8.ofBitVec b).toArray⟩
theorem push_all (l : List (BitVec 8)) : ∀ s : ByteArray, (l.map fun b => (b.toNat : Int)).foldl (fun r n => r.push (UInt8.ofNat n.toNat)) s = ⟨s.data ++ (l.map fun b => UInt8.ofBitVec b).toArray⟩ := by
  induction l with
  | nil => intro s; simp
  | cons b l ih =>
    intro s
    rw [List.map_cons, List.foldl_cons, ih]
    simp [ByteArray.push]
theorem str_run {A : Option Addr} {l : List (BitVec 8)} {W : World} (cap : Nat) (h : isB A l W) :
    (convert 55 9 (.slice A l.length cap)).run Try.prog W = .ok (.string (bstr l)) W := by
  rw [run_convert_bytes_string W 55 9 5 A l.length cap Try.underlying55 Try.underlying5 Try.underlying9]
  cases A with
  | none =>
    have hl : l = [] := by
      by_cases hl : l = []
      · exact hl
      · obtain ⟨_, _, e, _⟩ := h hl; cases e
    subst hl
    exact rfl
  | some a =>
    have hc : (loadCells a l.length).run Try.prog W = .ok ((l.map fun b => (b.toNat : Int)).map (Value.int .u8)).toArray W := by
      have := run_loadCells_list (P := Try.prog) W a (cellsB l) (fun j v hv => by
        have hne : l.length ≠ 0 := by
          intro e
          rw [List.eq_nil_of_length_eq_zero e] at hv
          simp [cellsB] at hv
        obtain ⟨ad, e, hr⟩ := h.news hne
        cases e
        exact hr j v hv)
      rw [cellsB_len] at this
      rw [this, List.map_map]; rfl
    rw [run_bytesToString W _ _ cap _ hc, push_all]
    simp [bstr]
theorem str_eq (l m : List (BitVec 8)) : ((bstr l).toList == (bstr m).toList) = decide (l = m) := by
  rw [Bool.eq_iff_iff, beq_iff_eq, decide_eq_true_iff, ByteArray.toList_eq, ByteArray.toList_eq]
  show (l.map fun b => UInt8.ofBitVec b) = (m.map fun b => UInt8.ofBitVec b) ↔ l = m
  exact List.map_inj_right (fun a b h => by simpa using h)

theorem results_row_tmp {P : Program} {fn : Func} {p u : Tmp} {ty : TypeId} (h : fn.results = #[.cell p ty, .tmp u]) (tmps : Array Value) (w : World) (g : Nat) (t : TypeId) (cs : Array Value) (fr : Nat × Nat) (d : TypeDesc)
    (hp : tmps.getD p undef = .pointer (some ⟨g, 0, none⟩)) (hg : w.heap[g]? = some (.cells cs t fr))
    (hu : P.underlying ty = some d) (hd : (match d with | .struct _ | .array _ _ => true | _ => false) = true) (hi : (P.info? ty).map (·.size) = some cs.size) :
    (results fn tmps).run P w = .ok (.tuple #[.agg cs, tmps.getD u undef]) w := by
  have hp' : tmps[p]?.getD undef = .pointer (some ⟨g, 0, none⟩) := by simpa using hp
  simp [results, h, hp', asAddr, run_loadVar_row w g t ty cs fr d hg hu hd hi]

theorem bstr_size (l : List (BitVec 8)) : (bstr l).size = l.length := by
  show (bstr l).data.size = _
  simp [bstr]
theorem index_bstr (l : List (BitVec 8)) (k : Nat) (z : BitVec 8) (h : l[k]? = some z) (w : World) : (Instr.index 9 (.string (bstr l)) (.int .i64 k)).run Try.prog w = .ok (U8 z) w := by
  obtain ⟨hlt, he⟩ := List.getElem?_eq_some_iff.1 h
  have h1 := run_index_string (P := Try.prog) w 9 (bstr l) .i64 k Try.underlying9
  rw [dif_pos ⟨by omega, by rw [bstr_size]; omega⟩] at h1
  refine h1.trans ?_
  have h2 : (bstr l)[(k : Int).toNat]'(by rw [bstr_size]; simpa using hlt) = UInt8.ofBitVec z := by
    show (bstr l).data[k]'_ = _
    simp [bstr, he]
  rw [h2]; rfl

theorem str_bstr (s : ByteArray) : ∃ l, s = bstr l := by
  refine ⟨s.data.toList.map UInt8.toBitVec, ?_⟩
  unfold bstr
  rw [List.map_map]
  have h : s.data.toList.map ((fun b => UInt8.ofBitVec b) ∘ UInt8.toBitVec) = s.data.toList := by
    conv => rhs; rw [← List.map_id s.data.toList]
    apply List.map_congr_left
    intro x _; rfl
  rw [h]
theorem bstr_extract (l : List (BitVec 8)) (i j : Nat) : (bstr l).extract i j = bstr ((l.drop i).take (j - i)) := by
  apply ByteArray.ext
  rw [ByteArray.data_extract]
  unfold bstr
  apply Array.ext'
  simp [List.extract, List.map_drop, List.map_take]
theorem bstr_append (l m : List (BitVec 8)) : bstr l ++ bstr m = bstr (l ++ m) := by
  apply ByteArray.ext
  rw [ByteArray.data_append]
  unfold bstr
  apply Array.ext'
  simp
theorem bcell {W w1 : World} (hb : Below W.heap.size W w1) : (∀ b o, b < W.heap.size → w1.cell? ⟨b, o, none⟩ = W.cell? ⟨b, o, none⟩) ∧ (∀ b o, b < W.heap.size → w1.frozen? ⟨b, o, none⟩ = W.frozen? ⟨b, o, none⟩) :=
  ⟨fun b o h => hb.cell (p := ⟨b, o, none⟩) h, fun b o h => hb.frozen (p := ⟨b, o, none⟩) h⟩
theorem beq_bv {n : Nat} (x y : BitVec n) : ((x.toNat : Int) == (y.toNat : Int)) = decide (x = y) := by
  rw [Bool.eq_iff_iff, beq_iff_eq, decide_eq_true_iff, Int.natCast_inj, BitVec.toNat_inj]

/-- Nothing but the block B has turned. -/
structure Tn (B : Nat) (w w' : World) : Prop where
  below : ∀ n0, n0 ≤ B → Below n0 w w'
  far : ∀ k, k ≠ B → w'.heap[k]? = w.heap[k]?
theorem Tn.refl (B : Nat) (w : World) : Tn B w w := ⟨fun _ _ => Below.refl _ _, fun _ _ => rfl⟩
theorem Tn.set {B : Nat} {w w' : World} (h : Tn B w w') (i : Nat) (v : Value) : Tn B w (w'.setCell ⟨B, i, none⟩ v) :=
  ⟨fun n0 hn => (h.below n0 hn).setCell hn v, fun k hk => (Below.heap_setCell w' ⟨B, i, none⟩ v k hk).trans (h.far k hk)⟩
theorem BoxN.tn {W W' : World} {B b : Nat} {t : TypeId} {cs : Array Value} (h : BoxN W b t cs) (hk : Tn B W W') (hb : b ≠ B) : BoxN W' b t cs := (hk.far b hb).trans h

end Go.Proofs.Ytdhofaiogbpjpaa
