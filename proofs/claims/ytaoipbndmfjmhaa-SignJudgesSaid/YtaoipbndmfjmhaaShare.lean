/- What the laws share: contracts with their values named, comparisons. -/
import Derived.Test.YtaoipbndmfjmhaaAwake
import Derived.Test.YtaoipbndmfjmhaaFrame
namespace Go.Proofs.Ytaoipbndmfjmhaa
open Go.RowKit Go.Joins

theorem own_set {W : World} {base b n c j : Nat} {m : List (BitVec 8)} (h : W.ownsRow base 5 1 (.slice (some ⟨b, 0, none⟩) n c) n (cellsB m)) (z : BitVec 8) :
    (W.setCell ⟨b, j, none⟩ (U8 z)).ownsRow base 5 1 (.slice (some ⟨b, 0, none⟩) n c) n (cellsB (m.set j z)) := by
  have hm : m.length = n := by have := h.1; rw [cellsB_len] at this; omega
  rcases h.2 with ⟨e, _⟩ | ⟨g', cap, cur, e, e2, hg, h4, h5, h6, h7⟩
  · cases e
  · simp only [Value.slice.injEq, Option.some.injEq, Addr.mk.injEq, and_true, true_and] at e
    obtain ⟨rfl, rfl⟩ := e
    refine ⟨by rw [cellsB_len, List.length_set]; omega, .inr ⟨b, c, cur.setIfInBounds j (U8 z), rfl, e2, BoxN.set1 (t := 5) (cs := cur) j (U8 z) hg, h4, h5, by simpa using h6, ?_⟩⟩
    rw [Array.toList_setIfInBounds, List.take_set, h7]
    unfold cellsB
    rw [List.map_set]

/-- Where an element of an own row lies. -/
theorem own_here {W : World} {base n c k : Nat} {g : Option Addr} {xs : List Value} (h : W.ownsRow base 5 1 (.slice g n c) n xs) (hn : 0 < n) {u : Value} (hk : xs[k]? = some u) :
    ∃ b, g = some ⟨b, 0, none⟩ ∧ base ≤ b ∧ b < W.heap.size ∧ W.cell? ⟨b, k, none⟩ = some u ∧ W.frozen? ⟨b, k, none⟩ = false := by
  rcases h.2 with ⟨_, e⟩ | ⟨b, cap, cur, e, hb, hg, _⟩
  · omega
  · simp only [Value.slice.injEq] at e
    obtain ⟨rfl, _, _⟩ := e
    have hc := h.cells (g := b) rfl k u hk
    rw [Addr.add_lit, Nat.zero_add] at hc
    exact ⟨b, rfl, hb, (Array.getElem?_eq_some_iff.1 hg).1, hc, BoxN.frozen (t := 5) (cs := cur) hg k⟩
/-- append of any slice of bytes to an own row of bytes, in a plain region. -/
theorem app_arm {ops : Array Oper} {rest : List Oper} {o : Oper} {a : Act} {Q : Exit → Act → World → Prop} (W : World) (hgd : o.guard = none) (s x : Operand)
    (ho : o.op = .call { callee := .builtin .append, args := #[s, x], argTypes := #[42, 42] })
    (base : Nat) (G : Option Addr) (n c : Nat) (l : List (BitVec 8)) (hs : a.eval s = .slice G n c) (hown : W.ownsRow base 5 1 (.slice G n c) n (cellsB l))
    (A : Option Addr) (m cap : Nat) (k : List (BitVec 8)) (hx : a.eval x = .slice A m cap) (hm : k.length = m) (hA : isB A k W) (r : Nat) (hr : n + m = r) (hn : r ≤ 4096) (hbase : base ≤ W.heap.size)
    (h : ∀ G' c' W', W'.ownsRow base 5 1 (.slice G' r c') r (cellsB (l ++ k)) → Below base W W' → wpList Try.prog ops Q rest (a.put o.dst (.slice G' r c')) W') : wpList Try.prog ops Q (o :: rest) a W := by
  obtain ⟨i0, hi, hz0, hz1, hz2⟩ := info_parts infoB
  subst hr hm
  refine app_any _ hgd s x 42 ho base 5 i0 _ 1 1 Try.underlying42 hi hz0 hz1 hz2 rfl (by decide) (.slice G n c) n (cellsB l) hs hown A k.length cap (cellsB k) hx (by rw [cellsB_len]; omega) hA.news (cellsB_one k) (by unfold maxLen; omega) (by omega) hbase ?_
  intro v' w' h2 h3
  obtain ⟨G', c', rfl⟩ := own_slice h2
  exact h G' c' w' (by rw [cellsB_append]; exact h2) ((Below.refl base W).grown h3 hbase (fun j e => own_block_le hown j e))
theorem cellsSt : Try.prog.cellsOf 88 = 2 := by kernel_rfl
theorem bcell {W w1 : World} (hb : Below W.heap.size W w1) : (∀ b o, b < W.heap.size → w1.cell? ⟨b, o, none⟩ = W.cell? ⟨b, o, none⟩) ∧ (∀ b o, b < W.heap.size → w1.frozen? ⟨b, o, none⟩ = W.frozen? ⟨b, o, none⟩) :=
  ⟨fun b o h => hb.cell (p := ⟨b, o, none⟩) h, fun b o h => hb.frozen (p := ⟨b, o, none⟩) h⟩
theorem int_bvs {x : Int} (h0 : -9223372036854775808 ≤ x) (h1 : x ≤ 9223372036854775807) : ∃ b : BitVec 64, x = b.toInt := by
  refine ⟨BitVec.ofInt 64 x, ?_⟩
  rw [BitVec.toInt_ofInt, Int.bmod_eq_of_le]
  · show -((2 ^ 64 : Nat) : Int) / 2 ≤ x
    have h : ((2 ^ 64 : Nat) : Int) = 18446744073709551616 := by decide
    rw [h]; omega
  · have h : ((2 ^ 64 : Nat) : Int) = 18446744073709551616 := by decide
    rw [h]; omega
theorem sub64 (x y : BitVec 64) : IntKind.u64.wrap ((x.toNat : Int) - (y.toNat : Int)) = ((x - y).toNat : Int) := by
  rw [BitVec.toNat_sub]
  simp only [IntKind.wrap, IntKind.signed, IntKind.bits, Bool.false_and, Bool.false_eq_true, if_false]
  have := x.isLt
  have := y.isLt
  omega
theorem beq_bvs (x y : BitVec 64) : (x.toInt == y.toInt) = decide (x = y) := by
  rw [Bool.eq_iff_iff, beq_iff_eq, decide_eq_true_iff, BitVec.toInt_inj]
theorem beq_bv {n : Nat} (x y : BitVec n) : ((x.toNat : Int) == (y.toNat : Int)) = decide (x = y) := by
  rw [Bool.eq_iff_iff, beq_iff_eq, decide_eq_true_iff, Int.natCast_inj, BitVec.toNat_inj]
theorem xor8 (x y : BitVec 8) : bits .xor .u8 (x.toNat : Int) (y.toNat : Int) = ((x ^^^ y).toNat : Int) := by
  have := x.isLt
  have := y.isLt
  rw [u8_xor_nat _ _ (by omega) (by omega), BitVec.toNat_xor]
theorem of_n {A : Option Addr} {cap : Nat} {l : List (BitVec 8)} (n : Nat) (hn : l.length = n) (s : BitVec 64) (hs : dg l = s) (hlen : n ≤ 1048576) (W : World) (h : isB A l W) :
    Calls Try.prog 33 #[.slice A n cap] W fun e w' => e = .returned (U64 s) ∧ Below W.heap.size W w' := by subst hn hs; exact of_any A cap l (by omega) W h
theorem add_n {A : Option Addr} {cap : Nat} {l : List (BitVec 8)} (n : Nat) (hn : l.length = n) (s m r k : BitVec 64) (hr : ad s l = r) (hk : m + BitVec.ofNat 64 n = k) (hlen : n ≤ 1048576) (W : World) (h : isB A l W) :
    Calls Try.prog 55 #[St s m, .slice A n cap] W fun e w' => e = .returned (St r k) ∧ Below W.heap.size W w' := by subst hn hr hk; exact add_any A cap l (by omega) s m W h
theorem fin_n (s m r : BitVec 64) (hr : fin s m = r) (W : World) :
    Calls Try.prog 54 #[St s m] W fun e w' => e = .returned (U64 r) ∧ Below W.heap.size W w' := by subst hr; exact fin_any s m W
end Go.Proofs.Ytaoipbndmfjmhaa
