/- Merged texts: CAwake. -/
import Derived.Test.YtbncfknjgldcbaaGreatM21
/- nacellelaw03's awake returns true. -/
namespace Go.Proofs.YtbncfknjgldcbaaGreat
open Go.RowKit Go.Joins Go.Shelf Go.Sort Num

theorem cl_box (b : Nat) (t : TypeId) (cs : Array Value) : Cl (fun W => BoxN W b t cs) := fun _ _ h hb => h.below hb h.lt
theorem isV.lit (W : World) (vs : List Value) (cells : Array Value) (t : TypeId) (he : cells.toList = vs) : isV (some ⟨W.heap.size, 0, none⟩) vs (W.alloc (.cells cells t)) :=
  fun _ => ⟨W.heap.size, 0, rfl, by simp, fun j v hv => by rw [Nat.zero_add, BoxN.cell (BoxN.new W t cells) j, ← Array.getElem?_toList, he]; exact hv⟩
theorem isL.two {A B : Option Addr} {ca cb : Nat} {c d : List Buck} {W : World} (hA : isC A ca c W) (hB : isC B cb d W) (hc : 1 ≤ c.length ∧ c.length ≤ 32) (hd : 1 ≤ d.length ∧ d.length ≤ 32) (t : TypeId) (n m : Nat) (hn : c.length = n) (hm : d.length = m) :
    isL (some ⟨W.heap.size, 0, none⟩) [c, d] (W.alloc (.cells #[.slice A n ca, .slice B m cb] t)) := by
  subst hn hm
  have hb : Below W.heap.size W (W.alloc (.cells #[.slice A c.length ca, .slice B d.length cb] t)) := (Below.refl _ _).alloc (Nat.le_refl _) _
  refine ⟨fun x hx => ?_, [.slice A c.length ca, .slice B d.length cb], rfl, isV.lit W _ _ t rfl, fun j v x hv hx => ?_⟩
  · simp only [List.mem_cons, List.not_mem_nil, or_false] at hx
    rcases hx with rfl | rfl
    · exact hc
    · exact hd
  · match j with
    | 0 => simp only [List.getElem?_cons_zero, Option.some.injEq] at hv hx; subst hv hx; exact ⟨A, ca, rfl, cl_isC A ca c W _ hA hb⟩
    | 1 => simp only [List.getElem?_cons_succ, List.getElem?_cons_zero, Option.some.injEq] at hv hx; subst hv hx; exact ⟨B, cb, rfl, cl_isC B cb d W _ hB hb⟩
    | j + 2 => simp at hv
namespace Aw3
theorem fit1 : Fit (1 : Rat) := by constructor <;> decide
def fr5 (g1 g2 g3 g4 g5 : Nat) (x8 x9 x44 x45 x46 x47 x48 x49 x50 x51 x52 x53 x54 x55 x56 x57 : Value) : Act :=
  { tmps := #[.bool false, .slice (some ⟨g1, 0, none⟩) 1 1, .slice (some ⟨g2, 0, none⟩) 1 1, .pointer (some ⟨g3, 0, none⟩), .pointer (some ⟨g4, 0, none⟩), .int .i64 0, .pointer (some ⟨g5, 0, none⟩), .int .i64 0, x8, x9, undef, undef, undef, undef, undef, undef, undef, .agg #[.int .i64 100, .int .i64 1], .agg #[.int .i64 1, .int .i64 2], .agg #[.int .i64 100, .int .i64 1, .int .i64 1, .int .i64 2], .slice (some ⟨g1, 0, none⟩) 1 1, .agg #[.int .i64 60, .int .i64 1], .agg #[.int .i64 1, .int .i64 4], .agg #[.int .i64 60, .int .i64 1, .int .i64 1, .int .i64 4], .slice (some ⟨g2, 0, none⟩) 1 1, .agg #[.int .i64 1, .int .i64 1], .agg #[.int .i64 16, .int .i64 1], .agg #[.int .i64 1, .int .i64 1, .int .i64 16, .int .i64 1], .tuple #[.agg #[.int .i64 176, .int .i64 1], .int .i64 0], .slice (some ⟨g1, 0, none⟩) 1 1, .slice (some ⟨g2, 0, none⟩) 1 1, .slice (some ⟨g3 + 1, 0, none⟩) 2 2, .agg #[.int .i64 1, .int .i64 1, .int .i64 16, .int .i64 1], .tuple #[.agg #[.int .i64 176, .int .i64 1], .int .i64 0], .agg #[.int .i64 176, .int .i64 1], .int .i64 0, .tuple #[.agg #[.int .i64 172, .int .i64 1], .int .i64 0], .slice (some ⟨g1, 0, none⟩) 1 1, .slice (some ⟨g2, 0, none⟩) 1 1, .slice (some ⟨g4 + 1, 0, none⟩) 2 2, .agg #[.int .i64 1, .int .i64 1, .int .i64 16, .int .i64 1], .tuple #[.agg #[.int .i64 172, .int .i64 1], .int .i64 0], .agg #[.int .i64 172, .int .i64 1], .int .i64 0, x44, x45, x46, x47, x48, x49, x50, x51, x52, x53, x54, x55, x56, x57, undef, undef, undef, undef, undef, undef, undef, undef, undef, undef, undef, undef, undef, undef, undef, undef, undef, undef, undef, undef, undef, undef, undef, undef, undef, undef, undef, undef, undef, undef, undef, undef, undef, undef, undef, undef, undef, undef, undef, undef, undef, undef, undef, undef, undef, undef, undef, undef, undef, undef, undef, undef, undef, undef, undef, undef, undef, undef, undef, undef, undef, undef, undef, undef, undef], defers := [] }
def SC (b15 b : Bool) (x : Value) (w : World) : Prop := b15 = false → b = true → ∃ A, x = .slice A 2 2 ∧ isC A 2 [q1, q3] w
theorem SC.keep {b15 b : Bool} {x : Value} {w w' : World} (h : SC b15 b x w) (hb : Below w.heap.size w w') : SC b15 b x w' := fun h1 h2 => by
  obtain ⟨A, e, hi⟩ := h h1 h2
  exact ⟨A, e, cl_isC _ _ _ _ _ hi hb⟩
def SD (b15 b : Bool) (x : Value) (w : World) : Prop := b15 = false → b = true → ∃ A, x = .slice A 2 2 ∧ isL A [[q1, q3], [q2]] w
theorem SD.keep {b15 b : Bool} {x : Value} {w w' : World} (h : SD b15 b x w) (hb : Below w.heap.size w w') : SD b15 b x w' := fun h1 h2 => by
  obtain ⟨A, e, hi⟩ := h h1 h2
  exact ⟨A, e, cl_isL _ _ _ _ hi hb⟩
def BX (B : Nat) (b15 b : Bool) (x : Value) (w : World) : Prop := b = true → ∃ g, x = .pointer (some ⟨g, 0, none⟩) ∧ B ≤ g ∧ (b15 = false → BoxN w g 25 #[.int .i64 0, .int .i64 0]) ∧ (b15 = true → BoxN w g 25 #[.int .i64 146, .int .i64 1])
theorem BX.keep {B : Nat} {b15 b : Bool} {x : Value} {w w' : World} (h : BX B b15 b x w) (hb : Below w.heap.size w w') : BX B b15 b x w' := fun h1 => by
  obtain ⟨g, e, hB, p, q⟩ := h h1
  exact ⟨g, e, hB, fun h2 => (p h2).below hb (p h2).lt, fun h2 => (q h2).below hb (q h2).lt⟩
def Iv5 (g1 g2 g3 g4 g5 : Nat) (W5 : World) (L : Array Bool) (a : Act) (w : World) : Prop :=
  ∃ (b0 b1 b2 b3 b4 b5 b6 b7 b8 b9 b10 b11 b12 b13 b14 b15 b16 : Bool) (x8 x9 x44 x45 x46 x47 x48 x49 x50 x51 x52 x53 x54 x55 x56 x57 : Value), L = #[b0, b1, b2, b3, b4, b5, b6, b7, b8, b9, b10, b11, b12, b13, b14, b15, b16] ∧ a = fr5 g1 g2 g3 g4 g5 x8 x9 x44 x45 x46 x47 x48 x49 x50 x51 x52 x53 x54 x55 x56 x57 ∧ Below W5.heap.size W5 w ∧
    (b0 = true → x45 = .slice (some ⟨g1, 0, none⟩) 1 1) ∧ (b1 = true → x46 = .pointer (some ⟨g1, 0, none⟩)) ∧ (b2 = true → x47 = .agg #[.int .i64 100, .int .i64 1, .int .i64 1, .int .i64 2]) ∧ (b3 = true → x48 = .agg #[.int .i64 40, .int .i64 1]) ∧ (b4 = true → x49 = .agg #[.int .i64 1, .int .i64 1]) ∧ (b5 = true → x50 = .agg #[.int .i64 40, .int .i64 1, .int .i64 1, .int .i64 1]) ∧ SC b15 b6 x51 w ∧ (b7 = true → x52 = .slice (some ⟨g2, 0, none⟩) 1 1) ∧ SD b15 b8 x53 w ∧ (b9 = true → x54 = .agg #[.int .i64 1, .int .i64 1, .int .i64 16, .int .i64 1]) ∧ (b10 = true → x55 = .tuple #[.agg #[.int .i64 146, .int .i64 1], .int .i64 0]) ∧ (b11 = true → x44 = .tuple #[.agg #[.int .i64 146, .int .i64 1], .int .i64 0]) ∧ (b12 = true → x56 = .agg #[.int .i64 146, .int .i64 1]) ∧ (b13 = true → x57 = .int .i64 0) ∧ BX W5.heap.size b15 b14 x8 w ∧ (b15 = true → b6 = true ∧ b8 = true ∧ b10 = true ∧ b14 = true) ∧ (b16 = true → x9 = .int .i64 0)
def fr10 (g1 g2 g3 g4 g5 g6 g7 g8 g9 : Nat) (B : Option Addr) (cB : Nat) (x51 x53 : Value) (x84 x85 x86 x87 x88 x89 x90 x91 x92 x93 x94 x95 x96 x97 x98 x99 x100 x101 x102 x103 x104 x105 x106 x107 x108 x109 x110 x111 x112 x113 x114 x115 x116 x117 x118 x119 x120 x121 x122 x0 : Value) : Act :=
  { tmps := #[x0, .slice (some ⟨g1, 0, none⟩) 1 1, .slice (some ⟨g2, 0, none⟩) 1 1, .pointer (some ⟨g3, 0, none⟩), .pointer (some ⟨g4, 0, none⟩), .int .i64 0, .pointer (some ⟨g5, 0, none⟩), .int .i64 0, .pointer (some ⟨g8, 0, none⟩), .int .i64 0, .slice (some ⟨g6, 0, none⟩) 2 2, .slice B 2 cB, .int .i64 0, .bool true, .int .i64 0, .bool false, .int .i64 0, .agg #[.int .i64 100, .int .i64 1], .agg #[.int .i64 1, .int .i64 2], .agg #[.int .i64 100, .int .i64 1, .int .i64 1, .int .i64 2], .slice (some ⟨g1, 0, none⟩) 1 1, .agg #[.int .i64 60, .int .i64 1], .agg #[.int .i64 1, .int .i64 4], .agg #[.int .i64 60, .int .i64 1, .int .i64 1, .int .i64 4], .slice (some ⟨g2, 0, none⟩) 1 1, .agg #[.int .i64 1, .int .i64 1], .agg #[.int .i64 16, .int .i64 1], .agg #[.int .i64 1, .int .i64 1, .int .i64 16, .int .i64 1], .tuple #[.agg #[.int .i64 176, .int .i64 1], .int .i64 0], .slice (some ⟨g1, 0, none⟩) 1 1, .slice (some ⟨g2, 0, none⟩) 1 1, .slice (some ⟨g3 + 1, 0, none⟩) 2 2, .agg #[.int .i64 1, .int .i64 1, .int .i64 16, .int .i64 1], .tuple #[.agg #[.int .i64 176, .int .i64 1], .int .i64 0], .agg #[.int .i64 176, .int .i64 1], .int .i64 0, .tuple #[.agg #[.int .i64 172, .int .i64 1], .int .i64 0], .slice (some ⟨g1, 0, none⟩) 1 1, .slice (some ⟨g2, 0, none⟩) 1 1, .slice (some ⟨g4 + 1, 0, none⟩) 2 2, .agg #[.int .i64 1, .int .i64 1, .int .i64 16, .int .i64 1], .tuple #[.agg #[.int .i64 172, .int .i64 1], .int .i64 0], .agg #[.int .i64 172, .int .i64 1], .int .i64 0, .tuple #[.agg #[.int .i64 146, .int .i64 1], .int .i64 0], .slice (some ⟨g1, 0, none⟩) 1 1, .pointer (some ⟨g1, 0, none⟩), .agg #[.int .i64 100, .int .i64 1, .int .i64 1, .int .i64 2], .agg #[.int .i64 40, .int .i64 1], .agg #[.int .i64 1, .int .i64 1], .agg #[.int .i64 40, .int .i64 1, .int .i64 1, .int .i64 1], x51, .slice (some ⟨g2, 0, none⟩) 1 1, x53, .agg #[.int .i64 1, .int .i64 1, .int .i64 16, .int .i64 1], .tuple #[.agg #[.int .i64 146, .int .i64 1], .int .i64 0], .agg #[.int .i64 146, .int .i64 1], .int .i64 0, .agg #[.int .i64 0, .int .i64 0, .int .i64 10], .agg #[.int .i64 3, .int .i64 0, .int .i64 10], .slice (some ⟨g6, 0, none⟩) 2 2, .tuple #[.slice B 2 cB, .int .i64 0], .slice (some ⟨g6, 0, none⟩) 2 2, .tuple #[.slice B 2 cB, .int .i64 0], .slice B 2 cB, .int .i64 0, .tuple #[.bool true, .int .i64 0], .agg #[.int .i64 10, .int .i64 1], .agg #[.int .i64 4, .int .i64 1], .agg #[.int .i64 10, .int .i64 1, .int .i64 4, .int .i64 1], .slice (some ⟨g7, 0, none⟩) 1 1, .slice (some ⟨g6, 0, none⟩) 2 2, .tuple #[.bool true, .int .i64 0], .bool true, .int .i64 0, .tuple #[.bool false, .int .i64 0], .agg #[.int .i64 10, .int .i64 1], .agg #[.int .i64 3, .int .i64 1], .agg #[.int .i64 10, .int .i64 1, .int .i64 3, .int .i64 1], .slice (some ⟨g9, 0, none⟩) 1 1, .slice (some ⟨g6, 0, none⟩) 2 2, .tuple #[.bool false, .int .i64 0], .bool false, .int .i64 0, x84, x85, x86, x87, x88, x89, x90, x91, x92, x93, x94, x95, x96, x97, x98, x99, x100, x101, x102, x103, x104, x105, x106, x107, x108, x109, x110, x111, x112, x113, x114, x115, x116, x117, x118, x119, x120, x121, x122], defers := [] }
def SN (b : Bool) (x : Value) (w : World) : Prop := b = true → ∃ A, x = .slice A 2 2 ∧ isN A [25, 45] w
theorem SN.keep {b : Bool} {x : Value} {w w' : World} (h : SN b x w) (hb : Below w.heap.size w w') : SN b x w' := fun h1 => by
  obtain ⟨A, e, hi⟩ := h h1
  exact ⟨A, e, cl_isN _ _ _ _ hi hb⟩
theorem isN.lit (W : World) : isN (some ⟨W.heap.size, 0, none⟩) [25, 45] (W.alloc (.cells #[.int .i64 25, .int .i64 45] 3)) := fun _ => by
  refine ⟨W.heap.size, 0, rfl, by simp, fun j z hz => ?_⟩
  have hb := BoxN.new W 3 #[.int .i64 25, .int .i64 45]
  match j with
  | 0 => simp only [List.getElem?_cons_zero, Option.some.injEq] at hz; subst hz; exact hb.cell 0
  | 1 => simp only [List.getElem?_cons_succ, List.getElem?_cons_zero, Option.some.injEq] at hz; subst hz; exact hb.cell 1
  | j + 2 => simp at hz
theorem ints_n {A B : Option Addr} {ca cb : Nat} {W : World} (hA : isN A [25, 45] W) (hB : isN B [25, 45] W) :
    Calls Tryz.prog 38 #[.slice A 2 ca, .slice B 2 cb] W fun e w' => e = .returned (.bool true) ∧ Below W.heap.size W w' :=
  ints_any A B ca cb [25, 45] [25, 45] (by decide) (by decide) (by decide) (by decide) W hA hB
structure R10 where
  b0 : Bool
  b1 : Bool
  b2 : Bool
  b3 : Bool
  b4 : Bool
  b5 : Bool
  b6 : Bool
  b7 : Bool
  b8 : Bool
  b9 : Bool
  b10 : Bool
  b11 : Bool
  b12 : Bool
  b13 : Bool
  b14 : Bool
  b15 : Bool
  b16 : Bool
  b17 : Bool
  b18 : Bool
  b19 : Bool
  b20 : Bool
  b21 : Bool
  b22 : Bool
  b23 : Bool
  b24 : Bool
  b25 : Bool
  b26 : Bool
  b27 : Bool
  b28 : Bool
  b29 : Bool
  b30 : Bool
  b31 : Bool
  b32 : Bool
  b33 : Bool
  b34 : Bool
  b35 : Bool
  b36 : Bool
  b37 : Bool
  b38 : Bool
  b39 : Bool
  x84 : Value
  x85 : Value
  x86 : Value
  x87 : Value
  x88 : Value
  x89 : Value
  x90 : Value
  x91 : Value
  x92 : Value
  x93 : Value
  x94 : Value
  x95 : Value
  x96 : Value
  x97 : Value
  x98 : Value
  x99 : Value
  x100 : Value
  x101 : Value
  x102 : Value
  x103 : Value
  x104 : Value
  x105 : Value
  x106 : Value
  x107 : Value
  x108 : Value
  x109 : Value
  x110 : Value
  x111 : Value
  x112 : Value
  x113 : Value
  x114 : Value
  x115 : Value
  x116 : Value
  x117 : Value
  x118 : Value
  x119 : Value
  x120 : Value
  x121 : Value
  x122 : Value
  x0 : Value
structure H10 (g1 g2 g3 g4 g5 g6 g7 g8 g9 : Nat) (B : Option Addr) (cB : Nat) (p : R10) (w : World) : Prop where
  h0 : p.b0 = true → p.x84 = .int .i64 0
  h1 : p.b1 = true → p.x85 = .int .i64 0
  h2 : p.b2 = true → p.x86 = .int .i64 0
  h3 : p.b3 = true → p.x87 = .int .i64 0
  h4 : p.b4 = true → p.x88 = .int .i64 0
  h5 : p.b5 = true → p.x89 = .int .i64 0
  h6 : p.b6 = true → p.x90 = .int .i64 0
  h7 : p.b7 = true → p.x91 = .int .i64 0
  h8 : p.b8 = true → p.x92 = .int .i64 0
  h9 : p.b9 = true → p.x93 = .int .i64 0
  h10 : p.b10 = true → p.x94 = .int .i64 0
  h11 : p.b11 = true → p.x95 = .bool true
  h12 : p.b12 = true → p.x96 = .bool true
  h13 : p.b13 = true → p.x97 = .agg #[.int .i64 176, .int .i64 1]
  h14 : p.b14 = true → p.x98 = .agg #[.int .i64 176, .int .i64 1]
  h15 : p.b15 = true → p.x99 = .bool true
  h16 : p.b16 = true → p.x100 = .bool true
  h17 : p.b17 = true → p.x101 = .bool true
  h18 : p.b18 = true → p.x102 = .agg #[.int .i64 172, .int .i64 1]
  h19 : p.b19 = true → p.x103 = .agg #[.int .i64 172, .int .i64 1]
  h20 : p.b20 = true → p.x104 = .bool true
  h21 : p.b21 = true → p.x105 = .bool true
  h22 : p.b22 = true → p.x106 = .bool true
  h23 : p.b23 = true → p.x107 = .agg #[.int .i64 146, .int .i64 1]
  h24 : p.b24 = true → p.x108 = .agg #[.int .i64 146, .int .i64 1]
  h25 : p.b25 = true → p.x109 = .bool true
  h26 : p.b26 = true → p.x110 = .bool true
  h27 : p.b27 = true → p.x111 = .bool true
  h28 : p.b28 = true → p.x112 = .slice B 2 cB
  h29 : SN p.b29 p.x113 w
  h30 : p.b30 = true → p.x114 = .bool true
  h31 : p.b31 = true → p.x115 = .bool true
  h32 : p.b32 = true → p.x116 = .bool true
  h33 : p.b33 = true → p.x117 = .bool true
  h34 : p.b34 = true → p.x118 = .bool true
  h35 : p.b35 = true → p.x119 = .bool true
  h36 : p.b36 = true → p.x120 = .bool false
  h37 : p.b37 = true → p.x121 = .bool true
  h38 : p.b38 = true → p.x122 = .bool true
  h39 : p.b39 = true → p.x0 = .bool true
def Iv10 (g1 g2 g3 g4 g5 g6 g7 g8 g9 : Nat) (B : Option Addr) (cB : Nat) (x51 x53 : Value) (V : World) (L : Array Bool) (a : Act) (w : World) : Prop :=
  ∃ p : R10, L = #[p.b0, p.b1, p.b2, p.b3, p.b4, p.b5, p.b6, p.b7, p.b8, p.b9, p.b10, p.b11, p.b12, p.b13, p.b14, p.b15, p.b16, p.b17, p.b18, p.b19, p.b20, p.b21, p.b22, p.b23, p.b24, p.b25, p.b26, p.b27, p.b28, p.b29, p.b30, p.b31, p.b32, p.b33, p.b34, p.b35, p.b36, p.b37, p.b38, p.b39] ∧ a = fr10 g1 g2 g3 g4 g5 g6 g7 g8 g9 B cB x51 x53 p.x84 p.x85 p.x86 p.x87 p.x88 p.x89 p.x90 p.x91 p.x92 p.x93 p.x94 p.x95 p.x96 p.x97 p.x98 p.x99 p.x100 p.x101 p.x102 p.x103 p.x104 p.x105 p.x106 p.x107 p.x108 p.x109 p.x110 p.x111 p.x112 p.x113 p.x114 p.x115 p.x116 p.x117 p.x118 p.x119 p.x120 p.x121 p.x122 p.x0 ∧ Below V.heap.size V w ∧ H10 g1 g2 g3 g4 g5 g6 g7 g8 g9 B cB p w
theorem delay_n {A B : Option Addr} {ca cb : Nat} {c d : List Buck} {W : World} (hA : isC A ca c W) (hB : isC B cb d W) (hc : 1 ≤ c.length ∧ c.length ≤ 32) (hd : 1 ≤ d.length ∧ d.length ≤ 32) (t : TypeId) (n m : Nat) (hn : c.length = n) (hm : d.length = m) (k : Int) (hk : delayV [c, d] 1 16 = (k, 1, 0)) :
    Calls Tryz.prog 26 #[.slice (some ⟨W.heap.size, 0, none⟩) 2 2, .agg #[.int .i64 1, .int .i64 1, .int .i64 16, .int .i64 1]] (W.alloc (.cells #[.slice A n ca, .slice B m cb] t)) fun e w' => e = .returned (.tuple #[.agg #[.int .i64 k, .int .i64 1], .int .i64 0]) ∧ Below W.heap.size W w' := by
  have h := delay_ok (some ⟨W.heap.size, 0, none⟩) 2 [c, d] (by simp) 1 16 fit1 (by decide) fit16 (by decide) _ (isL.two hA hB hc hd t n m hn hm)
  rw [hk] at h
  exact h.mono fun e w' ⟨h1, h2⟩ => ⟨h1, ((Below.refl _ _).alloc (Nat.le_refl _) _).trans (h2.mono (by simp))⟩
theorem delay_m (A : Option Addr) (W : World) (hI : isL A [[q1, q3], [q2]] W) :
    Calls Tryz.prog 26 #[.slice A 2 2, .agg #[.int .i64 1, .int .i64 1, .int .i64 16, .int .i64 1]] W fun e w' => e = .returned (.tuple #[.agg #[.int .i64 146, .int .i64 1], .int .i64 0]) ∧ Below W.heap.size W w' := by
  have h := delay_ok A 2 [[q1, q3], [q2]] (by simp) 1 16 fit1 (by decide) fit16 (by decide) W hI
  rw [delay132] at h
  exact h
theorem hold4y : (!([q4].any fun x => !holdsB x fr)) = true := by rw [hold4]; rfl
theorem hold5y : (!([q5].any fun x => !holdsB x fr)) = false := by rw [hold5]; rfl
theorem fr_lit (W : World) : isS (some ⟨W.heap.size, 0, none⟩) fr (W.alloc (.cells #[.int .i64 0, .int .i64 0, .int .i64 10, .int .i64 3, .int .i64 0, .int .i64 10] 85)) := fun _ => by
  refine ⟨W.heap.size, 0, rfl, by simp, fun j x hx => ?_⟩
  have hb := BoxN.new W 85 #[.int .i64 0, .int .i64 0, .int .i64 10, .int .i64 3, .int .i64 0, .int .i64 10]
  match j with
  | 0 => simp only [fr, List.getElem?_cons_zero, Option.some.injEq] at hx; subst hx; exact ⟨hb.cell 0, hb.cell 1, hb.cell 2⟩
  | 1 => simp only [fr, List.getElem?_cons_succ, List.getElem?_cons_zero, Option.some.injEq] at hx; subst hx; exact ⟨hb.cell 3, hb.cell 4, hb.cell 5⟩
  | j + 2 => simp [fr] at hx
theorem back_n {A B : Option Addr} {ca cb : Nat} {c d : List Buck} {W : World} (hA : isC A ca c W) (hB : isC B cb d W) (hc : 1 ≤ c.length ∧ c.length ≤ 32) (hd : 1 ≤ d.length ∧ d.length ≤ 32) (t : TypeId) (n m : Nat) (hn : c.length = n) (hm : d.length = m) (k : Int) (hk : backV [c, d] 1 16 fit16 = (k, 1, 0)) :
    Calls Tryz.prog 28 #[.slice (some ⟨W.heap.size, 0, none⟩) 2 2, .agg #[.int .i64 1, .int .i64 1, .int .i64 16, .int .i64 1]] (W.alloc (.cells #[.slice A n ca, .slice B m cb] t)) fun e w' => e = .returned (.tuple #[.agg #[.int .i64 k, .int .i64 1], .int .i64 0]) ∧ Below W.heap.size W w' := by
  have h := back_ok (some ⟨W.heap.size, 0, none⟩) 2 [c, d] (by simp) 1 16 fit1 (by decide) fit16 (by decide) _ (isL.two hA hB hc hd t n m hn hm)
  rw [hk] at h
  exact h.mono fun e w' ⟨h1, h2⟩ => ⟨h1, ((Below.refl _ _).alloc (Nat.le_refl _) _).trans (h2.mono (by simp))⟩
theorem serve_n {A : Option Addr} {W : World} (hA : isS A fr W) :
    Calls Tryz.prog 36 #[.slice A 2 2, .int .i64 2, .int .i64 5] W fun e w' => ∃ B c, e = .returned (.tuple #[.slice B 2 c, .int .i64 0]) ∧ isN B [25, 45] w' ∧ Below W.heap.size W w' := by
  have h := serve_any A 2 fr (fun _ => fr_bd) 2 5 (by decide) (by decide) W hA
  refine h.mono fun e w' ⟨h1, h2, h3⟩ => ?_
  obtain ⟨B, c, e1, e2⟩ := h1 ⟨by decide +kernel, by decide, by decide⟩
  rw [fr_serve] at e2
  exact ⟨B, c, e1, e2, h3⟩
theorem conf_n {A B : Option Addr} {q : Buck} {W : World} (hC : isC A 1 [q] W) (hS : isS B fr W) (hg : NoGap fr (harmL 1073741824 [q])) (y : Bool) (hy : (!([q].any fun x => !holdsB x fr)) = y) :
    Calls Tryz.prog 34 #[.slice A 1 1, .slice B 2 2] W fun e w' => e = .returned (.tuple #[.bool y, .int .i64 0]) ∧ Below W.heap.size W w' := by
  have h := callsIn_wide.1 (conf_ok A B 1 2 [q] (by simp) (by simp) fr fr_bd (by decide) fr_ok hg W hC hS)
  rw [hy] at h
  exact h

set_option maxRecDepth 100000 in
set_option maxHeartbeats 8000000 in
theorem walk (w : World) : Calls Tryz.prog 25 #[] w fun e w' => e = .returned (.bool true) ∧ Below w.heap.size w w' := by
  have HN : Hid (∀ (n d : Int) (W : World), _) := fun n d W => num3_any n d W
  have HBk : Hid (∀ (a b c d : Int) (W : World), _) := fun a b c d W => bucket3_any a b c d W
  go_enter Tryz.func25, Tryz.ntmps25
  have K := Kept.start w
  go_wp2_with fail
  (with_reducible refine (HN.out _ _ _).mono ?_); rintro e v ⟨rfl, hb⟩
  replace K := K.keep hb; clear hb
  go_wp2_with fail
  (with_reducible refine (HN.out _ _ _).mono ?_); rintro e v ⟨rfl, hb⟩
  replace K := K.keep hb; clear hb
  go_wp2_with fail
  (with_reducible refine (HBk.out _ _ _ _ _).mono ?_); rintro e v ⟨rfl, hb⟩
  replace K := (K.keep hb).alloc (.cells #[.int .i64 100, .int .i64 1, .int .i64 1, .int .i64 2] 80)
  replace K := K.add (cl_isC (some ⟨v.heap.size, 0, none⟩) 1 [q1]) (isC.lit v [q1] 1 _ cells1.symm)
  replace K := K.add (cl_box v.heap.size 80 #[.int .i64 100, .int .i64 1, .int .i64 1, .int .i64 2]) (BoxN.new v _ _)
  clear hb
  go_wp2_with fail
  generalize v.alloc (.cells #[.int .i64 100, .int .i64 1, .int .i64 1, .int .i64 2] 80) = W1 at K ⊢
  generalize v.heap.size = g1 at K ⊢
  (with_reducible refine (HN.out _ _ _).mono ?_); rintro e v ⟨rfl, hb⟩
  replace K := K.keep hb; clear hb
  go_wp2_with fail
  (with_reducible refine (HN.out _ _ _).mono ?_); rintro e v ⟨rfl, hb⟩
  replace K := K.keep hb; clear hb
  go_wp2_with fail
  (with_reducible refine (HBk.out _ _ _ _ _).mono ?_); rintro e v ⟨rfl, hb⟩
  replace K := (K.keep hb).alloc (.cells #[.int .i64 60, .int .i64 1, .int .i64 1, .int .i64 4] 80)
  replace K := K.add (cl_isC (some ⟨v.heap.size, 0, none⟩) 1 [q2]) (isC.lit v [q2] 1 _ cells2.symm)
  clear hb
  go_wp2_with fail
  generalize v.alloc (.cells #[.int .i64 60, .int .i64 1, .int .i64 1, .int .i64 4] 80) = W2 at K ⊢
  generalize v.heap.size = g2 at K ⊢
  (with_reducible refine (HN.out _ _ _).mono ?_); rintro e v ⟨rfl, hb⟩
  replace K := K.keep hb; clear hb
  go_wp2_with fail
  (with_reducible refine (HN.out _ _ _).mono ?_); rintro e v ⟨rfl, hb⟩
  replace K := ((K.keep hb).alloc (.cells #[.int .i64 1, .int .i64 1, .int .i64 16, .int .i64 1] 52)).add (cl_box v.heap.size 52 #[.int .i64 1, .int .i64 1, .int .i64 16, .int .i64 1]) (BoxN.new v _ _)
  clear hb
  go_wp2_with fail
  have hz : (v.alloc (.cells #[.int .i64 1, .int .i64 1, .int .i64 16, .int .i64 1] 52)).heap.size = v.heap.size + 1 := World.size_alloc _ _
  generalize v.alloc (.cells #[.int .i64 1, .int .i64 1, .int .i64 16, .int .i64 1] 52) = W3 at K hz ⊢
  generalize v.heap.size = g3 at K hz ⊢
  have H := delay_n (K.get 3 rfl) (K.get 1 rfl) (by decide) (by decide) 23 1 1 rfl rfl 176 delay12
  rw [hz] at H
  (with_reducible refine H.mono ?_); rintro e v ⟨rfl, hb⟩
  replace K := K.keep (hb.mono (Nat.le_of_eq hz))
  have hbx := K.get 0 rfl
  have c0 := hbx.cell 0
  have c1 := hbx.cell 1
  have c2 := hbx.cell 2
  have c3 := hbx.cell 3
  have hlt := hbx.lt
  replace K := (K.alloc (.cells #[.int .i64 176, .int .i64 1] 25)).add (cl_box v.heap.size 25 #[.int .i64 176, .int .i64 1]) (BoxN.new v _ _)
  clear hb hbx H hz
  go_wp2_with fail
  have hz : (v.alloc (.cells #[.int .i64 176, .int .i64 1] 25)).heap.size = v.heap.size + 1 := World.size_alloc _ _
  clear c0 c1 c2 c3 hlt
  generalize v.alloc (.cells #[.int .i64 176, .int .i64 1] 25) = W4 at K hz ⊢
  generalize v.heap.size = g4 at K hz ⊢
  have H := back_n (K.get 4 rfl) (K.get 2 rfl) (by decide) (by decide) 23 1 1 rfl rfl 172 back12
  rw [hz] at H
  (with_reducible refine H.mono ?_); rintro e v ⟨rfl, hb⟩
  replace K := K.keep (hb.mono (Nat.le_of_eq hz))
  have hbx := K.get 1 rfl
  have c0 := hbx.cell 0
  have c1 := hbx.cell 1
  have c2 := hbx.cell 2
  have c3 := hbx.cell 3
  have hlt := hbx.lt
  replace K := (K.alloc (.cells #[.int .i64 172, .int .i64 1] 25)).add (cl_box v.heap.size 25 #[.int .i64 172, .int .i64 1]) (BoxN.new v _ _)
  clear hb hbx H hz
  go_wp2_with fail
  have hz : (v.alloc (.cells #[.int .i64 172, .int .i64 1] 25)).heap.size = v.heap.size + 1 := World.size_alloc _ _
  clear c0 c1 c2 c3 hlt
  generalize v.alloc (.cells #[.int .i64 172, .int .i64 1] 25) = W5 at K hz ⊢
  generalize v.heap.size = g5 at K hz ⊢
  have HD : Hid (∀ (A : Option Addr) (W : World), isL A [[q1, q3], [q2]] W → _) := fun A W h => delay_m A W h
  have HQ1 : Hid (∀ W : World, Below W5.heap.size W5 W → BoxN W g1 80 #[.int .i64 100, .int .i64 1, .int .i64 1, .int .i64 2]) := fun W h => (K.keep h).get 4 rfl
  have HQ2 : Hid (∀ W : World, Below W5.heap.size W5 W → isC (some ⟨g2, 0, none⟩) 1 [q2] W) := fun W h => (K.keep h).get 3 rfl
  have HQ3 : Hid (∀ W : World, Below W5.heap.size W5 W → BoxN W g3 52 #[.int .i64 1, .int .i64 1, .int .i64 16, .int .i64 1]) := fun W h => (K.keep h).get 2 rfl
  have HK := Lib.hid K
  clear K
  refine wp_region_inv (Inv := Iv5 g1 g2 g3 g4 g5 W5) (by kernel_rfl) (down_of (by decide +kernel)) ?start ?size ?done ?step
  case start => exact ⟨false, false, false, false, false, false, false, false, false, false, false, false, false, false, false, false, false, undef, undef, undef, undef, undef, undef, undef, undef, undef, undef, undef, undef, undef, undef, undef, undef, rfl, rfl, (Below.refl _ _).drew, (fun h => by cases h), (fun h => by cases h), (fun h => by cases h), (fun h => by cases h), (fun h => by cases h), (fun h => by cases h), (fun _ h => by cases h), (fun h => by cases h), (fun _ h => by cases h), (fun h => by cases h), (fun h => by cases h), (fun h => by cases h), (fun h => by cases h), (fun h => by cases h), (fun h => by cases h), (fun h => by cases h), (fun h => by cases h)⟩
  case size =>
    rintro L a w ⟨b0, b1, b2, b3, b4, b5, b6, b7, b8, b9, b10, b11, b12, b13, b14, b15, b16, x8, x9, x44, x45, x46, x47, x48, x49, x50, x51, x52, x53, x54, x55, x56, x57, rfl, -⟩
    rfl
  case step =>
    rintro L a W i op ⟨b0, b1, b2, b3, b4, b5, b6, b7, b8, b9, b10, b11, b12, b13, b14, b15, b16, x8, x9, x44, x45, x46, x47, x48, x49, x50, x51, x52, x53, x54, x55, x56, x57, rfl, rfl, hBW, h0, h1, h2, h3, h4, h5, h6, h7, h8, h9, h10, h11, h12, h13, h14, h15, h16⟩ ho hun hdep
    have hi : i < 17 := (Array.getElem?_eq_some_iff.1 ho).1
    have k0 := Lib.hid h0
    have k1 := Lib.hid h1
    have k2 := Lib.hid h2
    have k3 := Lib.hid h3
    have k4 := Lib.hid h4
    have k5 := Lib.hid h5
    have k6 := Lib.hid h6
    have k7 := Lib.hid h7
    have k8 := Lib.hid h8
    have k9 := Lib.hid h9
    have k10 := Lib.hid h10
    have k11 := Lib.hid h11
    have k12 := Lib.hid h12
    have k13 := Lib.hid h13
    have k14 := Lib.hid h14
    have k15 := Lib.hid h15
    have k16 := Lib.hid h16
    have kB := Lib.hid hBW
    clear hBW
    rcases (by omega : i = 0 ∨ i = 1 ∨ i = 2 ∨ i = 3 ∨ i = 4 ∨ i = 5 ∨ i = 6 ∨ i = 7 ∨ i = 8 ∨ i = 9 ∨ i = 10 ∨ i = 11 ∨ i = 12 ∨ i = 13 ∨ i = 14 ∨ i = 15 ∨ i = 16) with rfl | rfl | rfl | rfl | rfl | rfl | rfl | rfl | rfl | rfl | rfl | rfl | rfl | rfl | rfl | rfl | rfl
    · cases ho
      refine wpOp_run rfl rfl ?_
      clear hdep hun h0 h1 h2 h3 h4 h5 h6 h7 h8 h9 h10 h11 h12 h13 h14 h15 h16
      unfold fr5
      go_simp
      exact ⟨true, b1, b2, b3, b4, b5, b6, b7, b8, b9, b10, b11, b12, b13, b14, b15, b16, x8, x9, x44, .slice (some ⟨g1, 0, none⟩) 1 1, x46, x47, x48, x49, x50, x51, x52, x53, x54, x55, x56, x57, rfl, rfl, kB.out, (fun _ => rfl), k1.out, k2.out, k3.out, k4.out, k5.out, k6.out, k7.out, k8.out, k9.out, k10.out, k11.out, k12.out, k13.out, k14.out, (fun h => by obtain ⟨p, q, r, s⟩ := k15.out h; exact ⟨by first | rfl | exact p, by first | rfl | exact q, by first | rfl | exact r, by first | rfl | exact s⟩), k16.out⟩
    · cases ho
      have d0 : b0 = true := hdep ⟨0, .data⟩ (by simp) rfl
      obtain rfl := h0 d0
      clear d0
      refine wpOp_run rfl rfl ?_
      clear hdep hun h0 h1 h2 h3 h4 h5 h6 h7 h8 h9 h10 h11 h12 h13 h14 h15 h16
      unfold fr5
      go_simp
      exact ⟨b0, true, b2, b3, b4, b5, b6, b7, b8, b9, b10, b11, b12, b13, b14, b15, b16, x8, x9, x44, .slice (some ⟨g1, 0, none⟩) 1 1, .pointer (some ⟨g1, 0, none⟩), x47, x48, x49, x50, x51, x52, x53, x54, x55, x56, x57, rfl, rfl, kB.out, (fun _ => rfl), (fun _ => rfl), k2.out, k3.out, k4.out, k5.out, k6.out, k7.out, k8.out, k9.out, k10.out, k11.out, k12.out, k13.out, k14.out, (fun h => by obtain ⟨p, q, r, s⟩ := k15.out h; exact ⟨by first | rfl | exact p, by first | rfl | exact q, by first | rfl | exact r, by first | rfl | exact s⟩), k16.out⟩
    · cases ho
      have d1 : b1 = true := hdep ⟨1, .data⟩ (by simp) rfl
      obtain rfl := h1 d1
      clear d1
      have hq := HQ1.out W kB.out
      have c0 := hq.cell 0
      have c1 := hq.cell 1
      have c2 := hq.cell 2
      have c3 := hq.cell 3
      have hlt := hq.lt
      refine wpOp_run rfl rfl ?_
      clear hdep hun h0 h1 h2 h3 h4 h5 h6 h7 h8 h9 h10 h11 h12 h13 h14 h15 h16
      unfold fr5
      go_simp
      exact ⟨b0, b1, true, b3, b4, b5, b6, b7, b8, b9, b10, b11, b12, b13, b14, b15, b16, x8, x9, x44, x45, .pointer (some ⟨g1, 0, none⟩), .agg #[.int .i64 100, .int .i64 1, .int .i64 1, .int .i64 2], x48, x49, x50, x51, x52, x53, x54, x55, x56, x57, rfl, rfl, kB.out, k0.out, (fun _ => rfl), (fun _ => rfl), k3.out, k4.out, k5.out, k6.out, k7.out, k8.out, k9.out, k10.out, k11.out, k12.out, k13.out, k14.out, (fun h => by obtain ⟨p, q, r, s⟩ := k15.out h; exact ⟨by first | rfl | exact p, by first | rfl | exact q, by first | rfl | exact r, by first | rfl | exact s⟩), k16.out⟩
    · cases ho
      refine wpOp_run rfl rfl ?_
      clear hdep hun h0 h1 h2 h3 h4 h5 h6 h7 h8 h9 h10 h11 h12 h13 h14 h15 h16
      unfold fr5
      go_simp
      (with_reducible refine (HN.out _ _ _).mono ?_); rintro e v ⟨rfl, hb⟩
      exact ⟨b0, b1, b2, true, b4, b5, b6, b7, b8, b9, b10, b11, b12, b13, b14, b15, b16, x8, x9, x44, x45, x46, x47, .agg #[.int .i64 40, .int .i64 1], x49, x50, x51, x52, x53, x54, x55, x56, x57, rfl, rfl, kB.out.trans (hb.mono kB.out.size), k0.out, k1.out, k2.out, (fun _ => rfl), k4.out, k5.out, (k6.out.keep hb), k7.out, (k8.out.keep hb), k9.out, k10.out, k11.out, k12.out, k13.out, (k14.out.keep hb), (fun h => by obtain ⟨p, q, r, s⟩ := k15.out h; exact ⟨by first | rfl | exact p, by first | rfl | exact q, by first | rfl | exact r, by first | rfl | exact s⟩), k16.out⟩
    · cases ho
      refine wpOp_run rfl rfl ?_
      clear hdep hun h0 h1 h2 h3 h4 h5 h6 h7 h8 h9 h10 h11 h12 h13 h14 h15 h16
      unfold fr5
      go_simp
      (with_reducible refine (HN.out _ _ _).mono ?_); rintro e v ⟨rfl, hb⟩
      exact ⟨b0, b1, b2, b3, true, b5, b6, b7, b8, b9, b10, b11, b12, b13, b14, b15, b16, x8, x9, x44, x45, x46, x47, x48, .agg #[.int .i64 1, .int .i64 1], x50, x51, x52, x53, x54, x55, x56, x57, rfl, rfl, kB.out.trans (hb.mono kB.out.size), k0.out, k1.out, k2.out, k3.out, (fun _ => rfl), k5.out, (k6.out.keep hb), k7.out, (k8.out.keep hb), k9.out, k10.out, k11.out, k12.out, k13.out, (k14.out.keep hb), (fun h => by obtain ⟨p, q, r, s⟩ := k15.out h; exact ⟨by first | rfl | exact p, by first | rfl | exact q, by first | rfl | exact r, by first | rfl | exact s⟩), k16.out⟩
    · cases ho
      have d3 : b3 = true := hdep ⟨3, .data⟩ (by simp) rfl
      obtain rfl := h3 d3
      clear d3
      have d4 : b4 = true := hdep ⟨4, .data⟩ (by simp) rfl
      obtain rfl := h4 d4
      clear d4
      refine wpOp_run rfl rfl ?_
      clear hdep hun h0 h1 h2 h3 h4 h5 h6 h7 h8 h9 h10 h11 h12 h13 h14 h15 h16
      unfold fr5
      go_simp
      (with_reducible refine (HBk.out _ _ _ _ _).mono ?_); rintro e v ⟨rfl, hb⟩
      exact ⟨b0, b1, b2, b3, b4, true, b6, b7, b8, b9, b10, b11, b12, b13, b14, b15, b16, x8, x9, x44, x45, x46, x47, .agg #[.int .i64 40, .int .i64 1], .agg #[.int .i64 1, .int .i64 1], .agg #[.int .i64 40, .int .i64 1, .int .i64 1, .int .i64 1], x51, x52, x53, x54, x55, x56, x57, rfl, rfl, kB.out.trans (hb.mono kB.out.size), k0.out, k1.out, k2.out, (fun _ => rfl), (fun _ => rfl), (fun _ => rfl), (k6.out.keep hb), k7.out, (k8.out.keep hb), k9.out, k10.out, k11.out, k12.out, k13.out, (k14.out.keep hb), (fun h => by obtain ⟨p, q, r, s⟩ := k15.out h; exact ⟨by first | rfl | exact p, by first | rfl | exact q, by first | rfl | exact r, by first | rfl | exact s⟩), k16.out⟩
    · cases ho
      have d2 : b2 = true := hdep ⟨2, .data⟩ (by simp) rfl
      obtain rfl := h2 d2
      clear d2
      have d5 : b5 = true := hdep ⟨5, .data⟩ (by simp) rfl
      obtain rfl := h5 d5
      clear d5
      refine wpOp_run rfl rfl ?_
      clear hdep hun h0 h1 h2 h3 h4 h5 h6 h7 h8 h9 h10 h11 h12 h13 h14 h15 h16
      unfold fr5
      go_simp
      have hb : Below W.heap.size W (W.alloc (.cells #[.int .i64 100, .int .i64 1, .int .i64 1, .int .i64 2, .int .i64 40, .int .i64 1, .int .i64 1, .int .i64 1] 80)) := (Below.refl _ _).alloc (Nat.le_refl _) _
      exact ⟨b0, b1, b2, b3, b4, b5, true, b7, b8, b9, b10, b11, b12, b13, b14, b15, b16, x8, x9, x44, x45, x46, .agg #[.int .i64 100, .int .i64 1, .int .i64 1, .int .i64 2], x48, x49, .agg #[.int .i64 40, .int .i64 1, .int .i64 1, .int .i64 1], .slice (some ⟨W.heap.size, 0, none⟩) 2 2, x52, x53, x54, x55, x56, x57, rfl, rfl, kB.out.trans (hb.mono kB.out.size), k0.out, k1.out, (fun _ => rfl), k3.out, k4.out, (fun _ => rfl), (fun _ _ => ⟨_, rfl, isC.lit W [q1, q3] 2 _ cells13.symm⟩), k7.out, (k8.out.keep hb), k9.out, k10.out, k11.out, k12.out, k13.out, (k14.out.keep hb), (fun h => by obtain ⟨p, q, r, s⟩ := k15.out h; exact ⟨by first | rfl | exact p, by first | rfl | exact q, by first | rfl | exact r, by first | rfl | exact s⟩), k16.out⟩
    · cases ho
      refine wpOp_run rfl rfl ?_
      clear hdep hun h0 h1 h2 h3 h4 h5 h6 h7 h8 h9 h10 h11 h12 h13 h14 h15 h16
      unfold fr5
      go_simp
      exact ⟨b0, b1, b2, b3, b4, b5, b6, true, b8, b9, b10, b11, b12, b13, b14, b15, b16, x8, x9, x44, x45, x46, x47, x48, x49, x50, x51, .slice (some ⟨g2, 0, none⟩) 1 1, x53, x54, x55, x56, x57, rfl, rfl, kB.out, k0.out, k1.out, k2.out, k3.out, k4.out, k5.out, k6.out, (fun _ => rfl), k8.out, k9.out, k10.out, k11.out, k12.out, k13.out, k14.out, (fun h => by obtain ⟨p, q, r, s⟩ := k15.out h; exact ⟨by first | rfl | exact p, by first | rfl | exact q, by first | rfl | exact r, by first | rfl | exact s⟩), k16.out⟩
    · cases ho
      have d6 : b6 = true := hdep ⟨6, .data⟩ (by simp) rfl
      have d7 : b7 = true := hdep ⟨7, .data⟩ (by simp) rfl
      obtain rfl := h7 d7
      clear d7
      have hb15 : b15 = false := by
        cases b15 with
        | false => rfl
        | true => have hu : b8 = false := hun; rw [(h15 rfl).2.1] at hu; cases hu
      obtain ⟨A, rfl, hA⟩ := h6 hb15 d6
      have hA := Lib.hid hA
      clear d6 hb15
      refine wpOp_run rfl rfl ?_
      clear hdep hun h0 h1 h2 h3 h4 h5 h6 h7 h8 h9 h10 h11 h12 h13 h14 h15 h16
      unfold fr5
      go_simp
      have hL := isL.two hA.out (HQ2.out W kB.out) (by decide) (by decide) 23 2 1 rfl rfl
      have hb : Below W.heap.size W (W.alloc (.cells #[.slice A 2 2, .slice (some ⟨g2, 0, none⟩) 1 1] 23)) := (Below.refl _ _).alloc (Nat.le_refl _) _
      exact ⟨b0, b1, b2, b3, b4, b5, b6, b7, true, b9, b10, b11, b12, b13, b14, b15, b16, x8, x9, x44, x45, x46, x47, x48, x49, x50, .slice A 2 2, .slice (some ⟨g2, 0, none⟩) 1 1, .slice (some ⟨W.heap.size, 0, none⟩) 2 2, x54, x55, x56, x57, rfl, rfl, kB.out.trans (hb.mono kB.out.size), k0.out, k1.out, k2.out, k3.out, k4.out, k5.out, (k6.out.keep hb), (fun _ => rfl), (fun _ _ => ⟨_, rfl, hL⟩), k9.out, k10.out, k11.out, k12.out, k13.out, (k14.out.keep hb), (fun h => by obtain ⟨p, q, r, s⟩ := k15.out h; exact ⟨by first | rfl | exact p, by first | rfl | exact q, by first | rfl | exact r, by first | rfl | exact s⟩), k16.out⟩
    · cases ho
      have hq := HQ3.out W kB.out
      have c0 := hq.cell 0
      have c1 := hq.cell 1
      have c2 := hq.cell 2
      have c3 := hq.cell 3
      have hlt := hq.lt
      refine wpOp_run rfl rfl ?_
      clear hdep hun h0 h1 h2 h3 h4 h5 h6 h7 h8 h9 h10 h11 h12 h13 h14 h15 h16
      unfold fr5
      go_simp
      exact ⟨b0, b1, b2, b3, b4, b5, b6, b7, b8, true, b10, b11, b12, b13, b14, b15, b16, x8, x9, x44, x45, x46, x47, x48, x49, x50, x51, x52, x53, .agg #[.int .i64 1, .int .i64 1, .int .i64 16, .int .i64 1], x55, x56, x57, rfl, rfl, kB.out, k0.out, k1.out, k2.out, k3.out, k4.out, k5.out, k6.out, k7.out, k8.out, (fun _ => rfl), k10.out, k11.out, k12.out, k13.out, k14.out, (fun h => by obtain ⟨p, q, r, s⟩ := k15.out h; exact ⟨by first | rfl | exact p, by first | rfl | exact q, by first | rfl | exact r, by first | rfl | exact s⟩), k16.out⟩
    · cases ho
      have d8 : b8 = true := hdep ⟨8, .data⟩ (by simp) rfl
      have d9 : b9 = true := hdep ⟨9, .data⟩ (by simp) rfl
      obtain rfl := h9 d9
      clear d9
      have hb15 : b15 = false := by
        cases b15 with
        | false => rfl
        | true => have hu : b10 = false := hun; rw [(h15 rfl).2.2.1] at hu; cases hu
      obtain ⟨A, rfl, hA⟩ := h8 hb15 d8
      have hA := Lib.hid hA
      clear d8 hb15
      refine wpOp_run rfl rfl ?_
      clear hdep hun h0 h1 h2 h3 h4 h5 h6 h7 h8 h9 h10 h11 h12 h13 h14 h15 h16
      unfold fr5
      go_simp
      (with_reducible refine (HD.out A W hA.out).mono ?_); rintro e v ⟨rfl, hb⟩
      exact ⟨b0, b1, b2, b3, b4, b5, b6, b7, b8, b9, true, b11, b12, b13, b14, b15, b16, x8, x9, x44, x45, x46, x47, x48, x49, x50, x51, x52, .slice A 2 2, .agg #[.int .i64 1, .int .i64 1, .int .i64 16, .int .i64 1], .tuple #[.agg #[.int .i64 146, .int .i64 1], .int .i64 0], x56, x57, rfl, rfl, kB.out.trans (hb.mono kB.out.size), k0.out, k1.out, k2.out, k3.out, k4.out, k5.out, (k6.out.keep hb), k7.out, (k8.out.keep hb), (fun _ => rfl), (fun _ => rfl), k11.out, k12.out, k13.out, (k14.out.keep hb), (fun h => by obtain ⟨p, q, r, s⟩ := k15.out h; exact ⟨by first | rfl | exact p, by first | rfl | exact q, by first | rfl | exact r, by first | rfl | exact s⟩), k16.out⟩
    · cases ho
      have d10 : b10 = true := hdep ⟨10, .data⟩ (by simp) rfl
      obtain rfl := h10 d10
      clear d10
      refine wpOp_run rfl rfl ?_
      clear hdep hun h0 h1 h2 h3 h4 h5 h6 h7 h8 h9 h10 h11 h12 h13 h14 h15 h16
      unfold fr5
      go_simp
      exact ⟨b0, b1, b2, b3, b4, b5, b6, b7, b8, b9, b10, true, b12, b13, b14, b15, b16, x8, x9, .tuple #[.agg #[.int .i64 146, .int .i64 1], .int .i64 0], x45, x46, x47, x48, x49, x50, x51, x52, x53, x54, .tuple #[.agg #[.int .i64 146, .int .i64 1], .int .i64 0], x56, x57, rfl, rfl, kB.out, k0.out, k1.out, k2.out, k3.out, k4.out, k5.out, k6.out, k7.out, k8.out, k9.out, (fun _ => rfl), (fun _ => rfl), k12.out, k13.out, k14.out, (fun h => by obtain ⟨p, q, r, s⟩ := k15.out h; exact ⟨by first | rfl | exact p, by first | rfl | exact q, by first | rfl | exact r, by first | rfl | exact s⟩), k16.out⟩
    · cases ho
      have d11 : b11 = true := hdep ⟨11, .data⟩ (by simp) rfl
      obtain rfl := h11 d11
      clear d11
      refine wpOp_run rfl rfl ?_
      clear hdep hun h0 h1 h2 h3 h4 h5 h6 h7 h8 h9 h10 h11 h12 h13 h14 h15 h16
      unfold fr5
      go_simp
      exact ⟨b0, b1, b2, b3, b4, b5, b6, b7, b8, b9, b10, b11, true, b13, b14, b15, b16, x8, x9, .tuple #[.agg #[.int .i64 146, .int .i64 1], .int .i64 0], x45, x46, x47, x48, x49, x50, x51, x52, x53, x54, x55, .agg #[.int .i64 146, .int .i64 1], x57, rfl, rfl, kB.out, k0.out, k1.out, k2.out, k3.out, k4.out, k5.out, k6.out, k7.out, k8.out, k9.out, k10.out, (fun _ => rfl), (fun _ => rfl), k13.out, k14.out, (fun h => by obtain ⟨p, q, r, s⟩ := k15.out h; exact ⟨by first | rfl | exact p, by first | rfl | exact q, by first | rfl | exact r, by first | rfl | exact s⟩), k16.out⟩
    · cases ho
      have d11 : b11 = true := hdep ⟨11, .data⟩ (by simp) rfl
      obtain rfl := h11 d11
      clear d11
      refine wpOp_run rfl rfl ?_
      clear hdep hun h0 h1 h2 h3 h4 h5 h6 h7 h8 h9 h10 h11 h12 h13 h14 h15 h16
      unfold fr5
      go_simp
      exact ⟨b0, b1, b2, b3, b4, b5, b6, b7, b8, b9, b10, b11, b12, true, b14, b15, b16, x8, x9, .tuple #[.agg #[.int .i64 146, .int .i64 1], .int .i64 0], x45, x46, x47, x48, x49, x50, x51, x52, x53, x54, x55, x56, .int .i64 0, rfl, rfl, kB.out, k0.out, k1.out, k2.out, k3.out, k4.out, k5.out, k6.out, k7.out, k8.out, k9.out, k10.out, (fun _ => rfl), k12.out, (fun _ => rfl), k14.out, (fun h => by obtain ⟨p, q, r, s⟩ := k15.out h; exact ⟨by first | rfl | exact p, by first | rfl | exact q, by first | rfl | exact r, by first | rfl | exact s⟩), k16.out⟩
    · cases ho
      have hb15 : b15 = false := by
        cases b15 with
        | false => rfl
        | true => have hu : b14 = false := hun; rw [(h15 rfl).2.2.2] at hu; cases hu
      replace hb15 := Lib.hid hb15
      refine wpOp_run rfl rfl ?_
      clear hdep hun h0 h1 h2 h3 h4 h5 h6 h7 h8 h9 h10 h11 h12 h13 h14 h15 h16
      unfold fr5
      go_simp
      have hb : Below W.heap.size W (W.alloc (.cells #[.int .i64 0, .int .i64 0] 25)) := (Below.refl _ _).alloc (Nat.le_refl _) _
      exact ⟨b0, b1, b2, b3, b4, b5, b6, b7, b8, b9, b10, b11, b12, b13, true, b15, b16, .pointer (some ⟨W.heap.size, 0, none⟩), x9, x44, x45, x46, x47, x48, x49, x50, x51, x52, x53, x54, x55, x56, x57, rfl, rfl, kB.out.trans (hb.mono kB.out.size), k0.out, k1.out, k2.out, k3.out, k4.out, k5.out, (k6.out.keep hb), k7.out, (k8.out.keep hb), k9.out, k10.out, k11.out, k12.out, k13.out, (fun _ => ⟨_, rfl, kB.out.size, fun _ => BoxN.new W _ _, fun h => by rw [hb15.out] at h; cases h⟩), (fun h => by obtain ⟨p, q, r, s⟩ := k15.out h; exact ⟨by first | rfl | exact p, by first | rfl | exact q, by first | rfl | exact r, by first | rfl | exact s⟩), k16.out⟩
    · cases ho
      have d14 : b14 = true := hdep ⟨14, .data⟩ (by simp) rfl
      have d12 : b12 = true := hdep ⟨12, .data⟩ (by simp) rfl
      obtain rfl := h12 d12
      clear d12
      have d6 : b6 = true := hdep ⟨6, .phase⟩ (by simp) rfl
      have d8 : b8 = true := hdep ⟨8, .phase⟩ (by simp) rfl
      have d10 : b10 = true := hdep ⟨10, .phase⟩ (by simp) rfl
      have hu : b15 = false := hun
      obtain ⟨g, rfl, hgB, hbx, -⟩ := h14 d14
      have hbx := hbx hu
      clear hu
      replace d6 := Lib.hid d6
      replace d8 := Lib.hid d8
      replace d10 := Lib.hid d10
      replace d14 := Lib.hid d14
      have c0 := hbx.cell 0
      have c1 := hbx.cell 1
      have f0 := hbx.frozen 0
      have f1 := hbx.frozen 1
      have hlt := hbx.lt
      refine wpOp_run rfl rfl ?_
      clear hdep hun h0 h1 h2 h3 h4 h5 h6 h7 h8 h9 h10 h11 h12 h13 h14 h15 h16
      unfold fr5
      go_simp
      have hx := hbx.set2 (.int .i64 146) (.int .i64 1)
      exact ⟨b0, b1, b2, b3, b4, b5, b6, b7, b8, b9, b10, b11, b12, b13, b14, true, b16, .pointer (some ⟨g, 0, none⟩), x9, x44, x45, x46, x47, x48, x49, x50, x51, x52, x53, x54, x55, .agg #[.int .i64 146, .int .i64 1], x57, rfl, rfl, ((kB.out.setCell (p := ⟨g, 0, none⟩) hgB _).setCell (p := ⟨g, 1, none⟩) hgB _), k0.out, k1.out, k2.out, k3.out, k4.out, k5.out, (fun h => by cases h), k7.out, (fun h => by cases h), k9.out, k10.out, k11.out, (fun _ => rfl), k13.out, (fun _ => ⟨g, rfl, hgB, (fun h => by cases h), fun _ => hx⟩), (fun _ => ⟨d6.out, d8.out, d10.out, d14.out⟩), k16.out⟩
    · cases ho
      have d13 : b13 = true := hdep ⟨13, .data⟩ (by simp) rfl
      obtain rfl := h13 d13
      clear d13
      refine wpOp_run rfl rfl ?_
      clear hdep hun h0 h1 h2 h3 h4 h5 h6 h7 h8 h9 h10 h11 h12 h13 h14 h15 h16
      unfold fr5
      go_simp
      exact ⟨b0, b1, b2, b3, b4, b5, b6, b7, b8, b9, b10, b11, b12, b13, b14, b15, true, x8, .int .i64 0, x44, x45, x46, x47, x48, x49, x50, x51, x52, x53, x54, x55, x56, .int .i64 0, rfl, rfl, kB.out, k0.out, k1.out, k2.out, k3.out, k4.out, k5.out, k6.out, k7.out, k8.out, k9.out, k10.out, k11.out, k12.out, (fun _ => rfl), k14.out, (fun h => by obtain ⟨p, q, r, s⟩ := k15.out h; exact ⟨by first | rfl | exact p, by first | rfl | exact q, by first | rfl | exact r, by first | rfl | exact s⟩), (fun _ => rfl)⟩
  case done =>
    rintro L a W ⟨b0, b1, b2, b3, b4, b5, b6, b7, b8, b9, b10, b11, b12, b13, b14, b15, b16, x8, x9, x44, x45, x46, x47, x48, x49, x50, x51, x52, x53, x54, x55, x56, x57, rfl, rfl, hBW, h0, h1, h2, h3, h4, h5, h6, h7, h8, h9, h10, h11, h12, h13, h14, h15, h16⟩ hall
    obtain rfl := h0 (hall 0 (by decide))
    obtain rfl := h1 (hall 1 (by decide))
    obtain rfl := h2 (hall 2 (by decide))
    obtain rfl := h3 (hall 3 (by decide))
    obtain rfl := h4 (hall 4 (by decide))
    obtain rfl := h5 (hall 5 (by decide))
    obtain rfl := h7 (hall 7 (by decide))
    obtain rfl := h9 (hall 9 (by decide))
    obtain rfl := h10 (hall 10 (by decide))
    obtain rfl := h11 (hall 11 (by decide))
    obtain rfl := h12 (hall 12 (by decide))
    obtain rfl := h13 (hall 13 (by decide))
    obtain rfl := h16 (hall 16 (by decide))
    obtain ⟨g8, rfl, -, -, hx⟩ := h14 (hall 14 (by decide))
    have hx := hx (hall 15 (by decide))
    have K := (HK.out.keep hBW).add (cl_box g8 25 #[.int .i64 146, .int .i64 1]) hx
    clear hall hBW hx h6 h8 h14 h15 HD HQ1 HQ2 HQ3 HK
    unfold fr5
    go_wp2_with fail
    replace K := (K.alloc (.cells #[.int .i64 0, .int .i64 0, .int .i64 10, .int .i64 3, .int .i64 0, .int .i64 10] 85)).add (cl_isS (some ⟨W.heap.size, 0, none⟩) fr) (fr_lit W)
    generalize W.alloc (.cells #[.int .i64 0, .int .i64 0, .int .i64 10, .int .i64 3, .int .i64 0, .int .i64 10] 85) = W6 at K ⊢
    generalize W.heap.size = g6 at K ⊢
    have H := serve_n (K.get 0 rfl)
    (with_reducible refine H.mono ?_); rintro e v ⟨B, cB, rfl, hN, hb⟩
    replace K := (K.keep hb).add (cl_isN B [25, 45]) hN
    clear hb hN H
    go_wp2_with fail
    (with_reducible refine (HN.out _ _ _).mono ?_); rintro e v ⟨rfl, hb⟩
    replace K := K.keep hb; clear hb
    go_wp2_with fail
    (with_reducible refine (HN.out _ _ _).mono ?_); rintro e v ⟨rfl, hb⟩
    replace K := K.keep hb; clear hb
    go_wp2_with fail
    (with_reducible refine (HBk.out _ _ _ _ _).mono ?_); rintro e v ⟨rfl, hb⟩
    replace K := (K.keep hb).alloc (.cells #[.int .i64 10, .int .i64 1, .int .i64 4, .int .i64 1] 80)
    replace K := K.add (cl_isC (some ⟨v.heap.size, 0, none⟩) 1 [q4]) (isC.lit v [q4] 1 _ cells4.symm)
    clear hb
    go_wp2_with fail
    generalize v.alloc (.cells #[.int .i64 10, .int .i64 1, .int .i64 4, .int .i64 1] 80) = W7 at K ⊢
    generalize v.heap.size = g7 at K ⊢
    have H := conf_n (K.get 0 rfl) (K.get 2 rfl) gap4 true hold4y
    (with_reducible refine H.mono ?_); rintro e v ⟨rfl, hb⟩
    replace K := K.keep hb; clear hb H
    go_wp2_with fail
    (with_reducible refine (HN.out _ _ _).mono ?_); rintro e v ⟨rfl, hb⟩
    replace K := K.keep hb; clear hb
    go_wp2_with fail
    (with_reducible refine (HN.out _ _ _).mono ?_); rintro e v ⟨rfl, hb⟩
    replace K := K.keep hb; clear hb
    go_wp2_with fail
    (with_reducible refine (HBk.out _ _ _ _ _).mono ?_); rintro e v ⟨rfl, hb⟩
    replace K := (K.keep hb).alloc (.cells #[.int .i64 10, .int .i64 1, .int .i64 3, .int .i64 1] 80)
    replace K := K.add (cl_isC (some ⟨v.heap.size, 0, none⟩) 1 [q5]) (isC.lit v [q5] 1 _ cells5.symm)
    clear hb
    go_wp2_with fail
    generalize v.alloc (.cells #[.int .i64 10, .int .i64 1, .int .i64 3, .int .i64 1] 80) = W9 at K ⊢
    generalize v.heap.size = g9 at K ⊢
    have H := conf_n (K.get 0 rfl) (K.get 3 rfl) gap5 false hold5y
    (with_reducible refine H.mono ?_); rintro e v ⟨rfl, hb⟩
    replace K := K.keep hb; clear hb H
    go_wp2_with fail
    have HX4 : Hid (∀ W : World, Below v.heap.size v W → BoxN W g4 25 #[.int .i64 176, .int .i64 1]) := fun W h => (K.keep h).get 6 rfl
    have HX5 : Hid (∀ W : World, Below v.heap.size v W → BoxN W g5 25 #[.int .i64 172, .int .i64 1]) := fun W h => (K.keep h).get 5 rfl
    have HX8 : Hid (∀ W : World, Below v.heap.size v W → BoxN W g8 25 #[.int .i64 146, .int .i64 1]) := fun W h => (K.keep h).get 4 rfl
    have HXN : Hid (∀ W : World, Below v.heap.size v W → isN B [25, 45] W) := fun W h => (K.keep h).get 2 rfl
    have HBv := Lib.hid K.b
    clear K HBk
    refine wp_region_inv (Inv := Iv10 g1 g2 g3 g4 g5 g6 g7 g8 g9 B cB x51 x53 v) (by kernel_rfl) (down_of (by decide +kernel)) ?start ?size ?done ?step
    case start => exact ⟨⟨false, false, false, false, false, false, false, false, false, false, false, false, false, false, false, false, false, false, false, false, false, false, false, false, false, false, false, false, false, false, false, false, false, false, false, false, false, false, false, false, undef, undef, undef, undef, undef, undef, undef, undef, undef, undef, undef, undef, undef, undef, undef, undef, undef, undef, undef, undef, undef, undef, undef, undef, undef, undef, undef, undef, undef, undef, undef, undef, undef, undef, undef, undef, undef, undef, undef, .bool false⟩, rfl, rfl, (Below.refl _ _).drew, ⟨(fun h => by cases h), (fun h => by cases h), (fun h => by cases h), (fun h => by cases h), (fun h => by cases h), (fun h => by cases h), (fun h => by cases h), (fun h => by cases h), (fun h => by cases h), (fun h => by cases h), (fun h => by cases h), (fun h => by cases h), (fun h => by cases h), (fun h => by cases h), (fun h => by cases h), (fun h => by cases h), (fun h => by cases h), (fun h => by cases h), (fun h => by cases h), (fun h => by cases h), (fun h => by cases h), (fun h => by cases h), (fun h => by cases h), (fun h => by cases h), (fun h => by cases h), (fun h => by cases h), (fun h => by cases h), (fun h => by cases h), (fun h => by cases h), (fun h => by cases h), (fun h => by cases h), (fun h => by cases h), (fun h => by cases h), (fun h => by cases h), (fun h => by cases h), (fun h => by cases h), (fun h => by cases h), (fun h => by cases h), (fun h => by cases h), (fun h => by cases h)⟩⟩
    case size =>
      rintro L a w ⟨p, rfl, -⟩
      rfl
    case done =>
      rintro L a W ⟨p, rfl, rfl, hBW, hH⟩ hall
      have h39 := hH.h39 (hall 39 (by decide))
      clear hH
      obtain ⟨b0, b1, b2, b3, b4, b5, b6, b7, b8, b9, b10, b11, b12, b13, b14, b15, b16, b17, b18, b19, b20, b21, b22, b23, b24, b25, b26, b27, b28, b29, b30, b31, b32, b33, b34, b35, b36, b37, b38, b39, x84, x85, x86, x87, x88, x89, x90, x91, x92, x93, x94, x95, x96, x97, x98, x99, x100, x101, x102, x103, x104, x105, x106, x107, x108, x109, x110, x111, x112, x113, x114, x115, x116, x117, x118, x119, x120, x121, x122, x0⟩ := p
      dsimp only at h39 ⊢
      subst h39
      have hF := Lib.hid (HBv.out.trans (hBW.mono HBv.out.size))
      clear hall hBW HX4 HX5 HX8 HXN HBv HN
      unfold fr10
      go_wp2_with fail
      go_ret
      exact ⟨rfl, hF.out⟩
    case step =>
      rintro L a W i op ⟨p, hL, ha, hBW, ⟨h0, h1, h2, h3, h4, h5, h6, h7, h8, h9, h10, h11, h12, h13, h14, h15, h16, h17, h18, h19, h20, h21, h22, h23, h24, h25, h26, h27, h28, h29, h30, h31, h32, h33, h34, h35, h36, h37, h38, h39⟩⟩ ho hun hdep
      obtain ⟨b0, b1, b2, b3, b4, b5, b6, b7, b8, b9, b10, b11, b12, b13, b14, b15, b16, b17, b18, b19, b20, b21, b22, b23, b24, b25, b26, b27, b28, b29, b30, b31, b32, b33, b34, b35, b36, b37, b38, b39, x84, x85, x86, x87, x88, x89, x90, x91, x92, x93, x94, x95, x96, x97, x98, x99, x100, x101, x102, x103, x104, x105, x106, x107, x108, x109, x110, x111, x112, x113, x114, x115, x116, x117, x118, x119, x120, x121, x122, x0⟩ := p
      dsimp only at hL ha h0 h1 h2 h3 h4 h5 h6 h7 h8 h9 h10 h11 h12 h13 h14 h15 h16 h17 h18 h19 h20 h21 h22 h23 h24 h25 h26 h27 h28 h29 h30 h31 h32 h33 h34 h35 h36 h37 h38 h39
      subst hL ha
      have hi : i < 40 := (Array.getElem?_eq_some_iff.1 ho).1
      have k0 := Lib.hid h0
      have k1 := Lib.hid h1
      have k2 := Lib.hid h2
      have k3 := Lib.hid h3
      have k4 := Lib.hid h4
      have k5 := Lib.hid h5
      have k6 := Lib.hid h6
      have k7 := Lib.hid h7
      have k8 := Lib.hid h8
      have k9 := Lib.hid h9
      have k10 := Lib.hid h10
      have k11 := Lib.hid h11
      have k12 := Lib.hid h12
      have k13 := Lib.hid h13
      have k14 := Lib.hid h14
      have k15 := Lib.hid h15
      have k16 := Lib.hid h16
      have k17 := Lib.hid h17
      have k18 := Lib.hid h18
      have k19 := Lib.hid h19
      have k20 := Lib.hid h20
      have k21 := Lib.hid h21
      have k22 := Lib.hid h22
      have k23 := Lib.hid h23
      have k24 := Lib.hid h24
      have k25 := Lib.hid h25
      have k26 := Lib.hid h26
      have k27 := Lib.hid h27
      have k28 := Lib.hid h28
      have k29 := Lib.hid h29
      have k30 := Lib.hid h30
      have k31 := Lib.hid h31
      have k32 := Lib.hid h32
      have k33 := Lib.hid h33
      have k34 := Lib.hid h34
      have k35 := Lib.hid h35
      have k36 := Lib.hid h36
      have k37 := Lib.hid h37
      have k38 := Lib.hid h38
      have k39 := Lib.hid h39
      have kB := Lib.hid hBW
      clear hBW hun HBv h0 h1 h2 h3 h4 h5 h6 h7 h8 h9 h10 h11 h12 h13 h14 h15 h16 h17 h18 h19 h20 h21 h22 h23 h24 h25 h26 h27 h28 h29 h30 h31 h32 h33 h34 h35 h36 h37 h38 h39
      rcases (by omega : i = 0 ∨ i = 1 ∨ i = 2 ∨ i = 3 ∨ i = 4 ∨ i = 5 ∨ i = 6 ∨ i = 7 ∨ i = 8 ∨ i = 9 ∨ i = 10 ∨ i = 11 ∨ i = 12 ∨ i = 13 ∨ i = 14 ∨ i = 15 ∨ i = 16 ∨ i = 17 ∨ i = 18 ∨ i = 19 ∨ i = 20 ∨ i = 21 ∨ i = 22 ∨ i = 23 ∨ i = 24 ∨ i = 25 ∨ i = 26 ∨ i = 27 ∨ i = 28 ∨ i = 29 ∨ i = 30 ∨ i = 31 ∨ i = 32 ∨ i = 33 ∨ i = 34 ∨ i = 35 ∨ i = 36 ∨ i = 37 ∨ i = 38 ∨ i = 39) with rfl | rfl | rfl | rfl | rfl | rfl | rfl | rfl | rfl | rfl | rfl | rfl | rfl | rfl | rfl | rfl | rfl | rfl | rfl | rfl | rfl | rfl | rfl | rfl | rfl | rfl | rfl | rfl | rfl | rfl | rfl | rfl | rfl | rfl | rfl | rfl | rfl | rfl | rfl | rfl
      · cases ho
        refine wpOp_run rfl rfl ?_
        clear hdep
        unfold fr10
        go_simp
        exact ⟨⟨true, b1, b2, b3, b4, b5, b6, b7, b8, b9, b10, b11, b12, b13, b14, b15, b16, b17, b18, b19, b20, b21, b22, b23, b24, b25, b26, b27, b28, b29, b30, b31, b32, b33, b34, b35, b36, b37, b38, b39, .int .i64 0, x85, x86, x87, x88, x89, x90, x91, x92, x93, x94, x95, x96, x97, x98, x99, x100, x101, x102, x103, x104, x105, x106, x107, x108, x109, x110, x111, x112, x113, x114, x115, x116, x117, x118, x119, x120, x121, x122, x0⟩, rfl, rfl, kB.out, ⟨(fun _ => rfl), k1.out, k2.out, k3.out, k4.out, k5.out, k6.out, k7.out, k8.out, k9.out, k10.out, k11.out, k12.out, k13.out, k14.out, k15.out, k16.out, k17.out, k18.out, k19.out, k20.out, k21.out, k22.out, k23.out, k24.out, k25.out, k26.out, k27.out, k28.out, k29.out, k30.out, k31.out, k32.out, k33.out, k34.out, k35.out, k36.out, k37.out, k38.out, k39.out⟩⟩
      · cases ho
        refine wpOp_run rfl rfl ?_
        clear hdep
        unfold fr10
        go_simp
        exact ⟨⟨b0, true, b2, b3, b4, b5, b6, b7, b8, b9, b10, b11, b12, b13, b14, b15, b16, b17, b18, b19, b20, b21, b22, b23, b24, b25, b26, b27, b28, b29, b30, b31, b32, b33, b34, b35, b36, b37, b38, b39, x84, .int .i64 0, x86, x87, x88, x89, x90, x91, x92, x93, x94, x95, x96, x97, x98, x99, x100, x101, x102, x103, x104, x105, x106, x107, x108, x109, x110, x111, x112, x113, x114, x115, x116, x117, x118, x119, x120, x121, x122, x0⟩, rfl, rfl, kB.out, ⟨k0.out, (fun _ => rfl), k2.out, k3.out, k4.out, k5.out, k6.out, k7.out, k8.out, k9.out, k10.out, k11.out, k12.out, k13.out, k14.out, k15.out, k16.out, k17.out, k18.out, k19.out, k20.out, k21.out, k22.out, k23.out, k24.out, k25.out, k26.out, k27.out, k28.out, k29.out, k30.out, k31.out, k32.out, k33.out, k34.out, k35.out, k36.out, k37.out, k38.out, k39.out⟩⟩
      · cases ho
        have d0 : b0 = true := hdep ⟨0, .data⟩ (by simp) rfl
        obtain rfl := k0.out d0
        clear d0
        have d1 : b1 = true := hdep ⟨1, .data⟩ (by simp) rfl
        obtain rfl := k1.out d1
        clear d1
        refine wpOp_run rfl rfl ?_
        clear hdep
        unfold fr10
        go_simp
        exact ⟨⟨b0, b1, true, b3, b4, b5, b6, b7, b8, b9, b10, b11, b12, b13, b14, b15, b16, b17, b18, b19, b20, b21, b22, b23, b24, b25, b26, b27, b28, b29, b30, b31, b32, b33, b34, b35, b36, b37, b38, b39, .int .i64 0, .int .i64 0, .int .i64 0, x87, x88, x89, x90, x91, x92, x93, x94, x95, x96, x97, x98, x99, x100, x101, x102, x103, x104, x105, x106, x107, x108, x109, x110, x111, x112, x113, x114, x115, x116, x117, x118, x119, x120, x121, x122, x0⟩, rfl, rfl, kB.out, ⟨(fun _ => rfl), (fun _ => rfl), (fun _ => rfl), k3.out, k4.out, k5.out, k6.out, k7.out, k8.out, k9.out, k10.out, k11.out, k12.out, k13.out, k14.out, k15.out, k16.out, k17.out, k18.out, k19.out, k20.out, k21.out, k22.out, k23.out, k24.out, k25.out, k26.out, k27.out, k28.out, k29.out, k30.out, k31.out, k32.out, k33.out, k34.out, k35.out, k36.out, k37.out, k38.out, k39.out⟩⟩
      · cases ho
        refine wpOp_run rfl rfl ?_
        clear hdep
        unfold fr10
        go_simp
        exact ⟨⟨b0, b1, b2, true, b4, b5, b6, b7, b8, b9, b10, b11, b12, b13, b14, b15, b16, b17, b18, b19, b20, b21, b22, b23, b24, b25, b26, b27, b28, b29, b30, b31, b32, b33, b34, b35, b36, b37, b38, b39, x84, x85, x86, .int .i64 0, x88, x89, x90, x91, x92, x93, x94, x95, x96, x97, x98, x99, x100, x101, x102, x103, x104, x105, x106, x107, x108, x109, x110, x111, x112, x113, x114, x115, x116, x117, x118, x119, x120, x121, x122, x0⟩, rfl, rfl, kB.out, ⟨k0.out, k1.out, k2.out, (fun _ => rfl), k4.out, k5.out, k6.out, k7.out, k8.out, k9.out, k10.out, k11.out, k12.out, k13.out, k14.out, k15.out, k16.out, k17.out, k18.out, k19.out, k20.out, k21.out, k22.out, k23.out, k24.out, k25.out, k26.out, k27.out, k28.out, k29.out, k30.out, k31.out, k32.out, k33.out, k34.out, k35.out, k36.out, k37.out, k38.out, k39.out⟩⟩
      · cases ho
        have d2 : b2 = true := hdep ⟨2, .data⟩ (by simp) rfl
        obtain rfl := k2.out d2
        clear d2
        have d3 : b3 = true := hdep ⟨3, .data⟩ (by simp) rfl
        obtain rfl := k3.out d3
        clear d3
        refine wpOp_run rfl rfl ?_
        clear hdep
        unfold fr10
        go_simp
        exact ⟨⟨b0, b1, b2, b3, true, b5, b6, b7, b8, b9, b10, b11, b12, b13, b14, b15, b16, b17, b18, b19, b20, b21, b22, b23, b24, b25, b26, b27, b28, b29, b30, b31, b32, b33, b34, b35, b36, b37, b38, b39, x84, x85, .int .i64 0, .int .i64 0, .int .i64 0, x89, x90, x91, x92, x93, x94, x95, x96, x97, x98, x99, x100, x101, x102, x103, x104, x105, x106, x107, x108, x109, x110, x111, x112, x113, x114, x115, x116, x117, x118, x119, x120, x121, x122, x0⟩, rfl, rfl, kB.out, ⟨k0.out, k1.out, (fun _ => rfl), (fun _ => rfl), (fun _ => rfl), k5.out, k6.out, k7.out, k8.out, k9.out, k10.out, k11.out, k12.out, k13.out, k14.out, k15.out, k16.out, k17.out, k18.out, k19.out, k20.out, k21.out, k22.out, k23.out, k24.out, k25.out, k26.out, k27.out, k28.out, k29.out, k30.out, k31.out, k32.out, k33.out, k34.out, k35.out, k36.out, k37.out, k38.out, k39.out⟩⟩
      · cases ho
        refine wpOp_run rfl rfl ?_
        clear hdep
        unfold fr10
        go_simp
        exact ⟨⟨b0, b1, b2, b3, b4, true, b6, b7, b8, b9, b10, b11, b12, b13, b14, b15, b16, b17, b18, b19, b20, b21, b22, b23, b24, b25, b26, b27, b28, b29, b30, b31, b32, b33, b34, b35, b36, b37, b38, b39, x84, x85, x86, x87, x88, .int .i64 0, x90, x91, x92, x93, x94, x95, x96, x97, x98, x99, x100, x101, x102, x103, x104, x105, x106, x107, x108, x109, x110, x111, x112, x113, x114, x115, x116, x117, x118, x119, x120, x121, x122, x0⟩, rfl, rfl, kB.out, ⟨k0.out, k1.out, k2.out, k3.out, k4.out, (fun _ => rfl), k6.out, k7.out, k8.out, k9.out, k10.out, k11.out, k12.out, k13.out, k14.out, k15.out, k16.out, k17.out, k18.out, k19.out, k20.out, k21.out, k22.out, k23.out, k24.out, k25.out, k26.out, k27.out, k28.out, k29.out, k30.out, k31.out, k32.out, k33.out, k34.out, k35.out, k36.out, k37.out, k38.out, k39.out⟩⟩
      · cases ho
        have d4 : b4 = true := hdep ⟨4, .data⟩ (by simp) rfl
        obtain rfl := k4.out d4
        clear d4
        have d5 : b5 = true := hdep ⟨5, .data⟩ (by simp) rfl
        obtain rfl := k5.out d5
        clear d5
        refine wpOp_run rfl rfl ?_
        clear hdep
        unfold fr10
        go_simp
        exact ⟨⟨b0, b1, b2, b3, b4, b5, true, b7, b8, b9, b10, b11, b12, b13, b14, b15, b16, b17, b18, b19, b20, b21, b22, b23, b24, b25, b26, b27, b28, b29, b30, b31, b32, b33, b34, b35, b36, b37, b38, b39, x84, x85, x86, x87, .int .i64 0, .int .i64 0, .int .i64 0, x91, x92, x93, x94, x95, x96, x97, x98, x99, x100, x101, x102, x103, x104, x105, x106, x107, x108, x109, x110, x111, x112, x113, x114, x115, x116, x117, x118, x119, x120, x121, x122, x0⟩, rfl, rfl, kB.out, ⟨k0.out, k1.out, k2.out, k3.out, (fun _ => rfl), (fun _ => rfl), (fun _ => rfl), k7.out, k8.out, k9.out, k10.out, k11.out, k12.out, k13.out, k14.out, k15.out, k16.out, k17.out, k18.out, k19.out, k20.out, k21.out, k22.out, k23.out, k24.out, k25.out, k26.out, k27.out, k28.out, k29.out, k30.out, k31.out, k32.out, k33.out, k34.out, k35.out, k36.out, k37.out, k38.out, k39.out⟩⟩
      · cases ho
        refine wpOp_run rfl rfl ?_
        clear hdep
        unfold fr10
        go_simp
        exact ⟨⟨b0, b1, b2, b3, b4, b5, b6, true, b8, b9, b10, b11, b12, b13, b14, b15, b16, b17, b18, b19, b20, b21, b22, b23, b24, b25, b26, b27, b28, b29, b30, b31, b32, b33, b34, b35, b36, b37, b38, b39, x84, x85, x86, x87, x88, x89, x90, .int .i64 0, x92, x93, x94, x95, x96, x97, x98, x99, x100, x101, x102, x103, x104, x105, x106, x107, x108, x109, x110, x111, x112, x113, x114, x115, x116, x117, x118, x119, x120, x121, x122, x0⟩, rfl, rfl, kB.out, ⟨k0.out, k1.out, k2.out, k3.out, k4.out, k5.out, k6.out, (fun _ => rfl), k8.out, k9.out, k10.out, k11.out, k12.out, k13.out, k14.out, k15.out, k16.out, k17.out, k18.out, k19.out, k20.out, k21.out, k22.out, k23.out, k24.out, k25.out, k26.out, k27.out, k28.out, k29.out, k30.out, k31.out, k32.out, k33.out, k34.out, k35.out, k36.out, k37.out, k38.out, k39.out⟩⟩
      · cases ho
        have d6 : b6 = true := hdep ⟨6, .data⟩ (by simp) rfl
        obtain rfl := k6.out d6
        clear d6
        have d7 : b7 = true := hdep ⟨7, .data⟩ (by simp) rfl
        obtain rfl := k7.out d7
        clear d7
        refine wpOp_run rfl rfl ?_
        clear hdep
        unfold fr10
        go_simp
        exact ⟨⟨b0, b1, b2, b3, b4, b5, b6, b7, true, b9, b10, b11, b12, b13, b14, b15, b16, b17, b18, b19, b20, b21, b22, b23, b24, b25, b26, b27, b28, b29, b30, b31, b32, b33, b34, b35, b36, b37, b38, b39, x84, x85, x86, x87, x88, x89, .int .i64 0, .int .i64 0, .int .i64 0, x93, x94, x95, x96, x97, x98, x99, x100, x101, x102, x103, x104, x105, x106, x107, x108, x109, x110, x111, x112, x113, x114, x115, x116, x117, x118, x119, x120, x121, x122, x0⟩, rfl, rfl, kB.out, ⟨k0.out, k1.out, k2.out, k3.out, k4.out, k5.out, (fun _ => rfl), (fun _ => rfl), (fun _ => rfl), k9.out, k10.out, k11.out, k12.out, k13.out, k14.out, k15.out, k16.out, k17.out, k18.out, k19.out, k20.out, k21.out, k22.out, k23.out, k24.out, k25.out, k26.out, k27.out, k28.out, k29.out, k30.out, k31.out, k32.out, k33.out, k34.out, k35.out, k36.out, k37.out, k38.out, k39.out⟩⟩
      · cases ho
        refine wpOp_run rfl rfl ?_
        clear hdep
        unfold fr10
        go_simp
        exact ⟨⟨b0, b1, b2, b3, b4, b5, b6, b7, b8, true, b10, b11, b12, b13, b14, b15, b16, b17, b18, b19, b20, b21, b22, b23, b24, b25, b26, b27, b28, b29, b30, b31, b32, b33, b34, b35, b36, b37, b38, b39, x84, x85, x86, x87, x88, x89, x90, x91, x92, .int .i64 0, x94, x95, x96, x97, x98, x99, x100, x101, x102, x103, x104, x105, x106, x107, x108, x109, x110, x111, x112, x113, x114, x115, x116, x117, x118, x119, x120, x121, x122, x0⟩, rfl, rfl, kB.out, ⟨k0.out, k1.out, k2.out, k3.out, k4.out, k5.out, k6.out, k7.out, k8.out, (fun _ => rfl), k10.out, k11.out, k12.out, k13.out, k14.out, k15.out, k16.out, k17.out, k18.out, k19.out, k20.out, k21.out, k22.out, k23.out, k24.out, k25.out, k26.out, k27.out, k28.out, k29.out, k30.out, k31.out, k32.out, k33.out, k34.out, k35.out, k36.out, k37.out, k38.out, k39.out⟩⟩
      · cases ho
        have d8 : b8 = true := hdep ⟨8, .data⟩ (by simp) rfl
        obtain rfl := k8.out d8
        clear d8
        have d9 : b9 = true := hdep ⟨9, .data⟩ (by simp) rfl
        obtain rfl := k9.out d9
        clear d9
        refine wpOp_run rfl rfl ?_
        clear hdep
        unfold fr10
        go_simp
        exact ⟨⟨b0, b1, b2, b3, b4, b5, b6, b7, b8, b9, true, b11, b12, b13, b14, b15, b16, b17, b18, b19, b20, b21, b22, b23, b24, b25, b26, b27, b28, b29, b30, b31, b32, b33, b34, b35, b36, b37, b38, b39, x84, x85, x86, x87, x88, x89, x90, x91, .int .i64 0, .int .i64 0, .int .i64 0, x95, x96, x97, x98, x99, x100, x101, x102, x103, x104, x105, x106, x107, x108, x109, x110, x111, x112, x113, x114, x115, x116, x117, x118, x119, x120, x121, x122, x0⟩, rfl, rfl, kB.out, ⟨k0.out, k1.out, k2.out, k3.out, k4.out, k5.out, k6.out, k7.out, (fun _ => rfl), (fun _ => rfl), (fun _ => rfl), k11.out, k12.out, k13.out, k14.out, k15.out, k16.out, k17.out, k18.out, k19.out, k20.out, k21.out, k22.out, k23.out, k24.out, k25.out, k26.out, k27.out, k28.out, k29.out, k30.out, k31.out, k32.out, k33.out, k34.out, k35.out, k36.out, k37.out, k38.out, k39.out⟩⟩
      · cases ho
        have d10 : b10 = true := hdep ⟨10, .data⟩ (by simp) rfl
        obtain rfl := k10.out d10
        clear d10
        refine wpOp_run rfl rfl ?_
        clear hdep
        unfold fr10
        go_simp
        exact ⟨⟨b0, b1, b2, b3, b4, b5, b6, b7, b8, b9, b10, true, b12, b13, b14, b15, b16, b17, b18, b19, b20, b21, b22, b23, b24, b25, b26, b27, b28, b29, b30, b31, b32, b33, b34, b35, b36, b37, b38, b39, x84, x85, x86, x87, x88, x89, x90, x91, x92, x93, .int .i64 0, .bool true, x96, x97, x98, x99, x100, x101, x102, x103, x104, x105, x106, x107, x108, x109, x110, x111, x112, x113, x114, x115, x116, x117, x118, x119, x120, x121, x122, x0⟩, rfl, rfl, kB.out, ⟨k0.out, k1.out, k2.out, k3.out, k4.out, k5.out, k6.out, k7.out, k8.out, k9.out, (fun _ => rfl), (fun _ => rfl), k12.out, k13.out, k14.out, k15.out, k16.out, k17.out, k18.out, k19.out, k20.out, k21.out, k22.out, k23.out, k24.out, k25.out, k26.out, k27.out, k28.out, k29.out, k30.out, k31.out, k32.out, k33.out, k34.out, k35.out, k36.out, k37.out, k38.out, k39.out⟩⟩
      · cases ho
        have d11 : b11 = true := hdep ⟨11, .data⟩ (by simp) rfl
        obtain rfl := k11.out d11
        clear d11
        refine wpOp_run rfl rfl ?_
        clear hdep
        unfold fr10
        go_simp
        exact ⟨⟨b0, b1, b2, b3, b4, b5, b6, b7, b8, b9, b10, b11, true, b13, b14, b15, b16, b17, b18, b19, b20, b21, b22, b23, b24, b25, b26, b27, b28, b29, b30, b31, b32, b33, b34, b35, b36, b37, b38, b39, x84, x85, x86, x87, x88, x89, x90, x91, x92, x93, x94, .bool true, .bool true, x97, x98, x99, x100, x101, x102, x103, x104, x105, x106, x107, x108, x109, x110, x111, x112, x113, x114, x115, x116, x117, x118, x119, x120, x121, x122, x0⟩, rfl, rfl, kB.out, ⟨k0.out, k1.out, k2.out, k3.out, k4.out, k5.out, k6.out, k7.out, k8.out, k9.out, k10.out, (fun _ => rfl), (fun _ => rfl), k13.out, k14.out, k15.out, k16.out, k17.out, k18.out, k19.out, k20.out, k21.out, k22.out, k23.out, k24.out, k25.out, k26.out, k27.out, k28.out, k29.out, k30.out, k31.out, k32.out, k33.out, k34.out, k35.out, k36.out, k37.out, k38.out, k39.out⟩⟩
      · cases ho
        have d12 : b12 = true := hdep ⟨12, .guard⟩ (by simp) rfl
        obtain rfl := k12.out d12
        clear d12
        have hq := HX4.out W kB.out
        have c0 := hq.cell 0
        have c1 := hq.cell 1
        have hlt := hq.lt
        refine wpOp_guard rfl rfl ?_
        clear hdep
        unfold fr10
        go_simp
        exact ⟨⟨b0, b1, b2, b3, b4, b5, b6, b7, b8, b9, b10, b11, b12, true, b14, b15, b16, b17, b18, b19, b20, b21, b22, b23, b24, b25, b26, b27, b28, b29, b30, b31, b32, b33, b34, b35, b36, b37, b38, b39, x84, x85, x86, x87, x88, x89, x90, x91, x92, x93, x94, x95, .bool true, .agg #[.int .i64 176, .int .i64 1], x98, x99, x100, x101, x102, x103, x104, x105, x106, x107, x108, x109, x110, x111, x112, x113, x114, x115, x116, x117, x118, x119, x120, x121, x122, x0⟩, rfl, rfl, kB.out, ⟨k0.out, k1.out, k2.out, k3.out, k4.out, k5.out, k6.out, k7.out, k8.out, k9.out, k10.out, k11.out, (fun _ => rfl), (fun _ => rfl), k14.out, k15.out, k16.out, k17.out, k18.out, k19.out, k20.out, k21.out, k22.out, k23.out, k24.out, k25.out, k26.out, k27.out, k28.out, k29.out, k30.out, k31.out, k32.out, k33.out, k34.out, k35.out, k36.out, k37.out, k38.out, k39.out⟩⟩
      · cases ho
        have d12 : b12 = true := hdep ⟨12, .guard⟩ (by simp) rfl
        obtain rfl := k12.out d12
        clear d12
        refine wpOp_guard rfl rfl ?_
        clear hdep
        unfold fr10
        go_simp
        (with_reducible refine (HN.out _ _ _).mono ?_); rintro e u ⟨rfl, hb⟩
        exact ⟨⟨b0, b1, b2, b3, b4, b5, b6, b7, b8, b9, b10, b11, b12, b13, true, b15, b16, b17, b18, b19, b20, b21, b22, b23, b24, b25, b26, b27, b28, b29, b30, b31, b32, b33, b34, b35, b36, b37, b38, b39, x84, x85, x86, x87, x88, x89, x90, x91, x92, x93, x94, x95, .bool true, x97, .agg #[.int .i64 176, .int .i64 1], x99, x100, x101, x102, x103, x104, x105, x106, x107, x108, x109, x110, x111, x112, x113, x114, x115, x116, x117, x118, x119, x120, x121, x122, x0⟩, rfl, rfl, kB.out.trans (hb.mono kB.out.size), ⟨k0.out, k1.out, k2.out, k3.out, k4.out, k5.out, k6.out, k7.out, k8.out, k9.out, k10.out, k11.out, (fun _ => rfl), k13.out, (fun _ => rfl), k15.out, k16.out, k17.out, k18.out, k19.out, k20.out, k21.out, k22.out, k23.out, k24.out, k25.out, k26.out, k27.out, k28.out, (k29.out.keep hb), k30.out, k31.out, k32.out, k33.out, k34.out, k35.out, k36.out, k37.out, k38.out, k39.out⟩⟩
      · cases ho
        have d13 : b13 = true := hdep ⟨13, .data⟩ (by simp) rfl
        obtain rfl := k13.out d13
        clear d13
        have d14 : b14 = true := hdep ⟨14, .data⟩ (by simp) rfl
        obtain rfl := k14.out d14
        clear d14
        have d12 : b12 = true := hdep ⟨12, .guard⟩ (by simp) rfl
        obtain rfl := k12.out d12
        clear d12
        refine wpOp_guard rfl rfl ?_
        clear hdep
        unfold fr10
        go_simp
        exact ⟨⟨b0, b1, b2, b3, b4, b5, b6, b7, b8, b9, b10, b11, b12, b13, b14, true, b16, b17, b18, b19, b20, b21, b22, b23, b24, b25, b26, b27, b28, b29, b30, b31, b32, b33, b34, b35, b36, b37, b38, b39, x84, x85, x86, x87, x88, x89, x90, x91, x92, x93, x94, x95, .bool true, .agg #[.int .i64 176, .int .i64 1], .agg #[.int .i64 176, .int .i64 1], .bool true, x100, x101, x102, x103, x104, x105, x106, x107, x108, x109, x110, x111, x112, x113, x114, x115, x116, x117, x118, x119, x120, x121, x122, x0⟩, rfl, rfl, kB.out, ⟨k0.out, k1.out, k2.out, k3.out, k4.out, k5.out, k6.out, k7.out, k8.out, k9.out, k10.out, k11.out, (fun _ => rfl), (fun _ => rfl), (fun _ => rfl), (fun _ => rfl), k16.out, k17.out, k18.out, k19.out, k20.out, k21.out, k22.out, k23.out, k24.out, k25.out, k26.out, k27.out, k28.out, k29.out, k30.out, k31.out, k32.out, k33.out, k34.out, k35.out, k36.out, k37.out, k38.out, k39.out⟩⟩
      · cases ho
        have d12 : b12 = true := hdep ⟨12, .data⟩ (by simp) rfl
        obtain rfl := k12.out d12
        clear d12
        have d15 : b15 = true := hdep ⟨15, .data⟩ (by simp) rfl
        obtain rfl := k15.out d15
        clear d15
        refine wpOp_run rfl rfl ?_
        clear hdep
        unfold fr10
        go_simp
        exact ⟨⟨b0, b1, b2, b3, b4, b5, b6, b7, b8, b9, b10, b11, b12, b13, b14, b15, true, b17, b18, b19, b20, b21, b22, b23, b24, b25, b26, b27, b28, b29, b30, b31, b32, b33, b34, b35, b36, b37, b38, b39, x84, x85, x86, x87, x88, x89, x90, x91, x92, x93, x94, x95, .bool true, x97, x98, .bool true, .bool true, x101, x102, x103, x104, x105, x106, x107, x108, x109, x110, x111, x112, x113, x114, x115, x116, x117, x118, x119, x120, x121, x122, x0⟩, rfl, rfl, kB.out, ⟨k0.out, k1.out, k2.out, k3.out, k4.out, k5.out, k6.out, k7.out, k8.out, k9.out, k10.out, k11.out, (fun _ => rfl), k13.out, k14.out, (fun _ => rfl), (fun _ => rfl), k17.out, k18.out, k19.out, k20.out, k21.out, k22.out, k23.out, k24.out, k25.out, k26.out, k27.out, k28.out, k29.out, k30.out, k31.out, k32.out, k33.out, k34.out, k35.out, k36.out, k37.out, k38.out, k39.out⟩⟩
      · cases ho
        have d16 : b16 = true := hdep ⟨16, .data⟩ (by simp) rfl
        obtain rfl := k16.out d16
        clear d16
        refine wpOp_run rfl rfl ?_
        clear hdep
        unfold fr10
        go_simp
        exact ⟨⟨b0, b1, b2, b3, b4, b5, b6, b7, b8, b9, b10, b11, b12, b13, b14, b15, b16, true, b18, b19, b20, b21, b22, b23, b24, b25, b26, b27, b28, b29, b30, b31, b32, b33, b34, b35, b36, b37, b38, b39, x84, x85, x86, x87, x88, x89, x90, x91, x92, x93, x94, x95, x96, x97, x98, x99, .bool true, .bool true, x102, x103, x104, x105, x106, x107, x108, x109, x110, x111, x112, x113, x114, x115, x116, x117, x118, x119, x120, x121, x122, x0⟩, rfl, rfl, kB.out, ⟨k0.out, k1.out, k2.out, k3.out, k4.out, k5.out, k6.out, k7.out, k8.out, k9.out, k10.out, k11.out, k12.out, k13.out, k14.out, k15.out, (fun _ => rfl), (fun _ => rfl), k18.out, k19.out, k20.out, k21.out, k22.out, k23.out, k24.out, k25.out, k26.out, k27.out, k28.out, k29.out, k30.out, k31.out, k32.out, k33.out, k34.out, k35.out, k36.out, k37.out, k38.out, k39.out⟩⟩
      · cases ho
        have d17 : b17 = true := hdep ⟨17, .guard⟩ (by simp) rfl
        obtain rfl := k17.out d17
        clear d17
        have hq := HX5.out W kB.out
        have c0 := hq.cell 0
        have c1 := hq.cell 1
        have hlt := hq.lt
        refine wpOp_guard rfl rfl ?_
        clear hdep
        unfold fr10
        go_simp
        exact ⟨⟨b0, b1, b2, b3, b4, b5, b6, b7, b8, b9, b10, b11, b12, b13, b14, b15, b16, b17, true, b19, b20, b21, b22, b23, b24, b25, b26, b27, b28, b29, b30, b31, b32, b33, b34, b35, b36, b37, b38, b39, x84, x85, x86, x87, x88, x89, x90, x91, x92, x93, x94, x95, x96, x97, x98, x99, x100, .bool true, .agg #[.int .i64 172, .int .i64 1], x103, x104, x105, x106, x107, x108, x109, x110, x111, x112, x113, x114, x115, x116, x117, x118, x119, x120, x121, x122, x0⟩, rfl, rfl, kB.out, ⟨k0.out, k1.out, k2.out, k3.out, k4.out, k5.out, k6.out, k7.out, k8.out, k9.out, k10.out, k11.out, k12.out, k13.out, k14.out, k15.out, k16.out, (fun _ => rfl), (fun _ => rfl), k19.out, k20.out, k21.out, k22.out, k23.out, k24.out, k25.out, k26.out, k27.out, k28.out, k29.out, k30.out, k31.out, k32.out, k33.out, k34.out, k35.out, k36.out, k37.out, k38.out, k39.out⟩⟩
      · cases ho
        have d17 : b17 = true := hdep ⟨17, .guard⟩ (by simp) rfl
        obtain rfl := k17.out d17
        clear d17
        refine wpOp_guard rfl rfl ?_
        clear hdep
        unfold fr10
        go_simp
        (with_reducible refine (HN.out _ _ _).mono ?_); rintro e u ⟨rfl, hb⟩
        exact ⟨⟨b0, b1, b2, b3, b4, b5, b6, b7, b8, b9, b10, b11, b12, b13, b14, b15, b16, b17, b18, true, b20, b21, b22, b23, b24, b25, b26, b27, b28, b29, b30, b31, b32, b33, b34, b35, b36, b37, b38, b39, x84, x85, x86, x87, x88, x89, x90, x91, x92, x93, x94, x95, x96, x97, x98, x99, x100, .bool true, x102, .agg #[.int .i64 172, .int .i64 1], x104, x105, x106, x107, x108, x109, x110, x111, x112, x113, x114, x115, x116, x117, x118, x119, x120, x121, x122, x0⟩, rfl, rfl, kB.out.trans (hb.mono kB.out.size), ⟨k0.out, k1.out, k2.out, k3.out, k4.out, k5.out, k6.out, k7.out, k8.out, k9.out, k10.out, k11.out, k12.out, k13.out, k14.out, k15.out, k16.out, (fun _ => rfl), k18.out, (fun _ => rfl), k20.out, k21.out, k22.out, k23.out, k24.out, k25.out, k26.out, k27.out, k28.out, (k29.out.keep hb), k30.out, k31.out, k32.out, k33.out, k34.out, k35.out, k36.out, k37.out, k38.out, k39.out⟩⟩
      · cases ho
        have d18 : b18 = true := hdep ⟨18, .data⟩ (by simp) rfl
        obtain rfl := k18.out d18
        clear d18
        have d19 : b19 = true := hdep ⟨19, .data⟩ (by simp) rfl
        obtain rfl := k19.out d19
        clear d19
        have d17 : b17 = true := hdep ⟨17, .guard⟩ (by simp) rfl
        obtain rfl := k17.out d17
        clear d17
        refine wpOp_guard rfl rfl ?_
        clear hdep
        unfold fr10
        go_simp
        exact ⟨⟨b0, b1, b2, b3, b4, b5, b6, b7, b8, b9, b10, b11, b12, b13, b14, b15, b16, b17, b18, b19, true, b21, b22, b23, b24, b25, b26, b27, b28, b29, b30, b31, b32, b33, b34, b35, b36, b37, b38, b39, x84, x85, x86, x87, x88, x89, x90, x91, x92, x93, x94, x95, x96, x97, x98, x99, x100, .bool true, .agg #[.int .i64 172, .int .i64 1], .agg #[.int .i64 172, .int .i64 1], .bool true, x105, x106, x107, x108, x109, x110, x111, x112, x113, x114, x115, x116, x117, x118, x119, x120, x121, x122, x0⟩, rfl, rfl, kB.out, ⟨k0.out, k1.out, k2.out, k3.out, k4.out, k5.out, k6.out, k7.out, k8.out, k9.out, k10.out, k11.out, k12.out, k13.out, k14.out, k15.out, k16.out, (fun _ => rfl), (fun _ => rfl), (fun _ => rfl), (fun _ => rfl), k21.out, k22.out, k23.out, k24.out, k25.out, k26.out, k27.out, k28.out, k29.out, k30.out, k31.out, k32.out, k33.out, k34.out, k35.out, k36.out, k37.out, k38.out, k39.out⟩⟩
      · cases ho
        have d17 : b17 = true := hdep ⟨17, .data⟩ (by simp) rfl
        obtain rfl := k17.out d17
        clear d17
        have d20 : b20 = true := hdep ⟨20, .data⟩ (by simp) rfl
        obtain rfl := k20.out d20
        clear d20
        refine wpOp_run rfl rfl ?_
        clear hdep
        unfold fr10
        go_simp
        exact ⟨⟨b0, b1, b2, b3, b4, b5, b6, b7, b8, b9, b10, b11, b12, b13, b14, b15, b16, b17, b18, b19, b20, true, b22, b23, b24, b25, b26, b27, b28, b29, b30, b31, b32, b33, b34, b35, b36, b37, b38, b39, x84, x85, x86, x87, x88, x89, x90, x91, x92, x93, x94, x95, x96, x97, x98, x99, x100, .bool true, x102, x103, .bool true, .bool true, x106, x107, x108, x109, x110, x111, x112, x113, x114, x115, x116, x117, x118, x119, x120, x121, x122, x0⟩, rfl, rfl, kB.out, ⟨k0.out, k1.out, k2.out, k3.out, k4.out, k5.out, k6.out, k7.out, k8.out, k9.out, k10.out, k11.out, k12.out, k13.out, k14.out, k15.out, k16.out, (fun _ => rfl), k18.out, k19.out, (fun _ => rfl), (fun _ => rfl), k22.out, k23.out, k24.out, k25.out, k26.out, k27.out, k28.out, k29.out, k30.out, k31.out, k32.out, k33.out, k34.out, k35.out, k36.out, k37.out, k38.out, k39.out⟩⟩
      · cases ho
        have d21 : b21 = true := hdep ⟨21, .data⟩ (by simp) rfl
        obtain rfl := k21.out d21
        clear d21
        refine wpOp_run rfl rfl ?_
        clear hdep
        unfold fr10
        go_simp
        exact ⟨⟨b0, b1, b2, b3, b4, b5, b6, b7, b8, b9, b10, b11, b12, b13, b14, b15, b16, b17, b18, b19, b20, b21, true, b23, b24, b25, b26, b27, b28, b29, b30, b31, b32, b33, b34, b35, b36, b37, b38, b39, x84, x85, x86, x87, x88, x89, x90, x91, x92, x93, x94, x95, x96, x97, x98, x99, x100, x101, x102, x103, x104, .bool true, .bool true, x107, x108, x109, x110, x111, x112, x113, x114, x115, x116, x117, x118, x119, x120, x121, x122, x0⟩, rfl, rfl, kB.out, ⟨k0.out, k1.out, k2.out, k3.out, k4.out, k5.out, k6.out, k7.out, k8.out, k9.out, k10.out, k11.out, k12.out, k13.out, k14.out, k15.out, k16.out, k17.out, k18.out, k19.out, k20.out, (fun _ => rfl), (fun _ => rfl), k23.out, k24.out, k25.out, k26.out, k27.out, k28.out, k29.out, k30.out, k31.out, k32.out, k33.out, k34.out, k35.out, k36.out, k37.out, k38.out, k39.out⟩⟩
      · cases ho
        have d22 : b22 = true := hdep ⟨22, .guard⟩ (by simp) rfl
        obtain rfl := k22.out d22
        clear d22
        have hq := HX8.out W kB.out
        have c0 := hq.cell 0
        have c1 := hq.cell 1
        have hlt := hq.lt
        refine wpOp_guard rfl rfl ?_
        clear hdep
        unfold fr10
        go_simp
        exact ⟨⟨b0, b1, b2, b3, b4, b5, b6, b7, b8, b9, b10, b11, b12, b13, b14, b15, b16, b17, b18, b19, b20, b21, b22, true, b24, b25, b26, b27, b28, b29, b30, b31, b32, b33, b34, b35, b36, b37, b38, b39, x84, x85, x86, x87, x88, x89, x90, x91, x92, x93, x94, x95, x96, x97, x98, x99, x100, x101, x102, x103, x104, x105, .bool true, .agg #[.int .i64 146, .int .i64 1], x108, x109, x110, x111, x112, x113, x114, x115, x116, x117, x118, x119, x120, x121, x122, x0⟩, rfl, rfl, kB.out, ⟨k0.out, k1.out, k2.out, k3.out, k4.out, k5.out, k6.out, k7.out, k8.out, k9.out, k10.out, k11.out, k12.out, k13.out, k14.out, k15.out, k16.out, k17.out, k18.out, k19.out, k20.out, k21.out, (fun _ => rfl), (fun _ => rfl), k24.out, k25.out, k26.out, k27.out, k28.out, k29.out, k30.out, k31.out, k32.out, k33.out, k34.out, k35.out, k36.out, k37.out, k38.out, k39.out⟩⟩
      · cases ho
        have d22 : b22 = true := hdep ⟨22, .guard⟩ (by simp) rfl
        obtain rfl := k22.out d22
        clear d22
        refine wpOp_guard rfl rfl ?_
        clear hdep
        unfold fr10
        go_simp
        (with_reducible refine (HN.out _ _ _).mono ?_); rintro e u ⟨rfl, hb⟩
        exact ⟨⟨b0, b1, b2, b3, b4, b5, b6, b7, b8, b9, b10, b11, b12, b13, b14, b15, b16, b17, b18, b19, b20, b21, b22, b23, true, b25, b26, b27, b28, b29, b30, b31, b32, b33, b34, b35, b36, b37, b38, b39, x84, x85, x86, x87, x88, x89, x90, x91, x92, x93, x94, x95, x96, x97, x98, x99, x100, x101, x102, x103, x104, x105, .bool true, x107, .agg #[.int .i64 146, .int .i64 1], x109, x110, x111, x112, x113, x114, x115, x116, x117, x118, x119, x120, x121, x122, x0⟩, rfl, rfl, kB.out.trans (hb.mono kB.out.size), ⟨k0.out, k1.out, k2.out, k3.out, k4.out, k5.out, k6.out, k7.out, k8.out, k9.out, k10.out, k11.out, k12.out, k13.out, k14.out, k15.out, k16.out, k17.out, k18.out, k19.out, k20.out, k21.out, (fun _ => rfl), k23.out, (fun _ => rfl), k25.out, k26.out, k27.out, k28.out, (k29.out.keep hb), k30.out, k31.out, k32.out, k33.out, k34.out, k35.out, k36.out, k37.out, k38.out, k39.out⟩⟩
      · cases ho
        have d23 : b23 = true := hdep ⟨23, .data⟩ (by simp) rfl
        obtain rfl := k23.out d23
        clear d23
        have d24 : b24 = true := hdep ⟨24, .data⟩ (by simp) rfl
        obtain rfl := k24.out d24
        clear d24
        have d22 : b22 = true := hdep ⟨22, .guard⟩ (by simp) rfl
        obtain rfl := k22.out d22
        clear d22
        refine wpOp_guard rfl rfl ?_
        clear hdep
        unfold fr10
        go_simp
        exact ⟨⟨b0, b1, b2, b3, b4, b5, b6, b7, b8, b9, b10, b11, b12, b13, b14, b15, b16, b17, b18, b19, b20, b21, b22, b23, b24, true, b26, b27, b28, b29, b30, b31, b32, b33, b34, b35, b36, b37, b38, b39, x84, x85, x86, x87, x88, x89, x90, x91, x92, x93, x94, x95, x96, x97, x98, x99, x100, x101, x102, x103, x104, x105, .bool true, .agg #[.int .i64 146, .int .i64 1], .agg #[.int .i64 146, .int .i64 1], .bool true, x110, x111, x112, x113, x114, x115, x116, x117, x118, x119, x120, x121, x122, x0⟩, rfl, rfl, kB.out, ⟨k0.out, k1.out, k2.out, k3.out, k4.out, k5.out, k6.out, k7.out, k8.out, k9.out, k10.out, k11.out, k12.out, k13.out, k14.out, k15.out, k16.out, k17.out, k18.out, k19.out, k20.out, k21.out, (fun _ => rfl), (fun _ => rfl), (fun _ => rfl), (fun _ => rfl), k26.out, k27.out, k28.out, k29.out, k30.out, k31.out, k32.out, k33.out, k34.out, k35.out, k36.out, k37.out, k38.out, k39.out⟩⟩
      · cases ho
        have d22 : b22 = true := hdep ⟨22, .data⟩ (by simp) rfl
        obtain rfl := k22.out d22
        clear d22
        have d25 : b25 = true := hdep ⟨25, .data⟩ (by simp) rfl
        obtain rfl := k25.out d25
        clear d25
        refine wpOp_run rfl rfl ?_
        clear hdep
        unfold fr10
        go_simp
        exact ⟨⟨b0, b1, b2, b3, b4, b5, b6, b7, b8, b9, b10, b11, b12, b13, b14, b15, b16, b17, b18, b19, b20, b21, b22, b23, b24, b25, true, b27, b28, b29, b30, b31, b32, b33, b34, b35, b36, b37, b38, b39, x84, x85, x86, x87, x88, x89, x90, x91, x92, x93, x94, x95, x96, x97, x98, x99, x100, x101, x102, x103, x104, x105, .bool true, x107, x108, .bool true, .bool true, x111, x112, x113, x114, x115, x116, x117, x118, x119, x120, x121, x122, x0⟩, rfl, rfl, kB.out, ⟨k0.out, k1.out, k2.out, k3.out, k4.out, k5.out, k6.out, k7.out, k8.out, k9.out, k10.out, k11.out, k12.out, k13.out, k14.out, k15.out, k16.out, k17.out, k18.out, k19.out, k20.out, k21.out, (fun _ => rfl), k23.out, k24.out, (fun _ => rfl), (fun _ => rfl), k27.out, k28.out, k29.out, k30.out, k31.out, k32.out, k33.out, k34.out, k35.out, k36.out, k37.out, k38.out, k39.out⟩⟩
      · cases ho
        have d26 : b26 = true := hdep ⟨26, .data⟩ (by simp) rfl
        obtain rfl := k26.out d26
        clear d26
        refine wpOp_run rfl rfl ?_
        clear hdep
        unfold fr10
        go_simp
        exact ⟨⟨b0, b1, b2, b3, b4, b5, b6, b7, b8, b9, b10, b11, b12, b13, b14, b15, b16, b17, b18, b19, b20, b21, b22, b23, b24, b25, b26, true, b28, b29, b30, b31, b32, b33, b34, b35, b36, b37, b38, b39, x84, x85, x86, x87, x88, x89, x90, x91, x92, x93, x94, x95, x96, x97, x98, x99, x100, x101, x102, x103, x104, x105, x106, x107, x108, x109, .bool true, .bool true, x112, x113, x114, x115, x116, x117, x118, x119, x120, x121, x122, x0⟩, rfl, rfl, kB.out, ⟨k0.out, k1.out, k2.out, k3.out, k4.out, k5.out, k6.out, k7.out, k8.out, k9.out, k10.out, k11.out, k12.out, k13.out, k14.out, k15.out, k16.out, k17.out, k18.out, k19.out, k20.out, k21.out, k22.out, k23.out, k24.out, k25.out, (fun _ => rfl), (fun _ => rfl), k28.out, k29.out, k30.out, k31.out, k32.out, k33.out, k34.out, k35.out, k36.out, k37.out, k38.out, k39.out⟩⟩
      · cases ho
        have d27 : b27 = true := hdep ⟨27, .guard⟩ (by simp) rfl
        obtain rfl := k27.out d27
        clear d27
        refine wpOp_guard rfl rfl ?_
        clear hdep
        unfold fr10
        go_simp
        exact ⟨⟨b0, b1, b2, b3, b4, b5, b6, b7, b8, b9, b10, b11, b12, b13, b14, b15, b16, b17, b18, b19, b20, b21, b22, b23, b24, b25, b26, b27, true, b29, b30, b31, b32, b33, b34, b35, b36, b37, b38, b39, x84, x85, x86, x87, x88, x89, x90, x91, x92, x93, x94, x95, x96, x97, x98, x99, x100, x101, x102, x103, x104, x105, x106, x107, x108, x109, x110, .bool true, .slice B 2 cB, x113, x114, x115, x116, x117, x118, x119, x120, x121, x122, x0⟩, rfl, rfl, kB.out, ⟨k0.out, k1.out, k2.out, k3.out, k4.out, k5.out, k6.out, k7.out, k8.out, k9.out, k10.out, k11.out, k12.out, k13.out, k14.out, k15.out, k16.out, k17.out, k18.out, k19.out, k20.out, k21.out, k22.out, k23.out, k24.out, k25.out, k26.out, (fun _ => rfl), (fun _ => rfl), k29.out, k30.out, k31.out, k32.out, k33.out, k34.out, k35.out, k36.out, k37.out, k38.out, k39.out⟩⟩
      · cases ho
        have d27 : b27 = true := hdep ⟨27, .guard⟩ (by simp) rfl
        obtain rfl := k27.out d27
        clear d27
        refine wpOp_guard rfl rfl ?_
        clear hdep
        unfold fr10
        go_simp
        have hb : Below W.heap.size W (W.alloc (.cells #[.int .i64 25, .int .i64 45] 3)) := (Below.refl _ _).alloc (Nat.le_refl _) _
        exact ⟨⟨b0, b1, b2, b3, b4, b5, b6, b7, b8, b9, b10, b11, b12, b13, b14, b15, b16, b17, b18, b19, b20, b21, b22, b23, b24, b25, b26, b27, b28, true, b30, b31, b32, b33, b34, b35, b36, b37, b38, b39, x84, x85, x86, x87, x88, x89, x90, x91, x92, x93, x94, x95, x96, x97, x98, x99, x100, x101, x102, x103, x104, x105, x106, x107, x108, x109, x110, .bool true, x112, .slice (some ⟨W.heap.size, 0, none⟩) 2 2, x114, x115, x116, x117, x118, x119, x120, x121, x122, x0⟩, rfl, rfl, kB.out.trans (hb.mono kB.out.size), ⟨k0.out, k1.out, k2.out, k3.out, k4.out, k5.out, k6.out, k7.out, k8.out, k9.out, k10.out, k11.out, k12.out, k13.out, k14.out, k15.out, k16.out, k17.out, k18.out, k19.out, k20.out, k21.out, k22.out, k23.out, k24.out, k25.out, k26.out, (fun _ => rfl), k28.out, (fun _ => ⟨_, rfl, isN.lit W⟩), k30.out, k31.out, k32.out, k33.out, k34.out, k35.out, k36.out, k37.out, k38.out, k39.out⟩⟩
      · cases ho
        have d28 : b28 = true := hdep ⟨28, .data⟩ (by simp) rfl
        obtain rfl := k28.out d28
        clear d28
        have d29 : b29 = true := hdep ⟨29, .data⟩ (by simp) rfl
        have d27 : b27 = true := hdep ⟨27, .guard⟩ (by simp) rfl
        obtain rfl := k27.out d27
        clear d27
        obtain ⟨A, rfl, hA⟩ := k29.out d29
        clear d29
        have hA := Lib.hid hA
        refine wpOp_guard rfl rfl ?_
        clear hdep
        unfold fr10
        go_simp
        (with_reducible refine (ints_n (HXN.out W kB.out) hA.out).mono ?_); rintro e u ⟨rfl, hb⟩
        exact ⟨⟨b0, b1, b2, b3, b4, b5, b6, b7, b8, b9, b10, b11, b12, b13, b14, b15, b16, b17, b18, b19, b20, b21, b22, b23, b24, b25, b26, b27, b28, b29, true, b31, b32, b33, b34, b35, b36, b37, b38, b39, x84, x85, x86, x87, x88, x89, x90, x91, x92, x93, x94, x95, x96, x97, x98, x99, x100, x101, x102, x103, x104, x105, x106, x107, x108, x109, x110, .bool true, .slice B 2 cB, .slice A 2 2, .bool true, x115, x116, x117, x118, x119, x120, x121, x122, x0⟩, rfl, rfl, kB.out.trans (hb.mono kB.out.size), ⟨k0.out, k1.out, k2.out, k3.out, k4.out, k5.out, k6.out, k7.out, k8.out, k9.out, k10.out, k11.out, k12.out, k13.out, k14.out, k15.out, k16.out, k17.out, k18.out, k19.out, k20.out, k21.out, k22.out, k23.out, k24.out, k25.out, k26.out, (fun _ => rfl), (fun _ => rfl), (k29.out.keep hb), (fun _ => rfl), k31.out, k32.out, k33.out, k34.out, k35.out, k36.out, k37.out, k38.out, k39.out⟩⟩
      · cases ho
        have d27 : b27 = true := hdep ⟨27, .data⟩ (by simp) rfl
        obtain rfl := k27.out d27
        clear d27
        have d30 : b30 = true := hdep ⟨30, .data⟩ (by simp) rfl
        obtain rfl := k30.out d30
        clear d30
        refine wpOp_run rfl rfl ?_
        clear hdep
        unfold fr10
        go_simp
        exact ⟨⟨b0, b1, b2, b3, b4, b5, b6, b7, b8, b9, b10, b11, b12, b13, b14, b15, b16, b17, b18, b19, b20, b21, b22, b23, b24, b25, b26, b27, b28, b29, b30, true, b32, b33, b34, b35, b36, b37, b38, b39, x84, x85, x86, x87, x88, x89, x90, x91, x92, x93, x94, x95, x96, x97, x98, x99, x100, x101, x102, x103, x104, x105, x106, x107, x108, x109, x110, .bool true, x112, x113, .bool true, .bool true, x116, x117, x118, x119, x120, x121, x122, x0⟩, rfl, rfl, kB.out, ⟨k0.out, k1.out, k2.out, k3.out, k4.out, k5.out, k6.out, k7.out, k8.out, k9.out, k10.out, k11.out, k12.out, k13.out, k14.out, k15.out, k16.out, k17.out, k18.out, k19.out, k20.out, k21.out, k22.out, k23.out, k24.out, k25.out, k26.out, (fun _ => rfl), k28.out, k29.out, (fun _ => rfl), (fun _ => rfl), k32.out, k33.out, k34.out, k35.out, k36.out, k37.out, k38.out, k39.out⟩⟩
      · cases ho
        have d31 : b31 = true := hdep ⟨31, .data⟩ (by simp) rfl
        obtain rfl := k31.out d31
        clear d31
        refine wpOp_run rfl rfl ?_
        clear hdep
        unfold fr10
        go_simp
        exact ⟨⟨b0, b1, b2, b3, b4, b5, b6, b7, b8, b9, b10, b11, b12, b13, b14, b15, b16, b17, b18, b19, b20, b21, b22, b23, b24, b25, b26, b27, b28, b29, b30, b31, true, b33, b34, b35, b36, b37, b38, b39, x84, x85, x86, x87, x88, x89, x90, x91, x92, x93, x94, x95, x96, x97, x98, x99, x100, x101, x102, x103, x104, x105, x106, x107, x108, x109, x110, x111, x112, x113, x114, .bool true, .bool true, x117, x118, x119, x120, x121, x122, x0⟩, rfl, rfl, kB.out, ⟨k0.out, k1.out, k2.out, k3.out, k4.out, k5.out, k6.out, k7.out, k8.out, k9.out, k10.out, k11.out, k12.out, k13.out, k14.out, k15.out, k16.out, k17.out, k18.out, k19.out, k20.out, k21.out, k22.out, k23.out, k24.out, k25.out, k26.out, k27.out, k28.out, k29.out, k30.out, (fun _ => rfl), (fun _ => rfl), k33.out, k34.out, k35.out, k36.out, k37.out, k38.out, k39.out⟩⟩
      · cases ho
        have d32 : b32 = true := hdep ⟨32, .guard⟩ (by simp) rfl
        obtain rfl := k32.out d32
        clear d32
        refine wpOp_guard rfl rfl ?_
        clear hdep
        unfold fr10
        go_simp
        exact ⟨⟨b0, b1, b2, b3, b4, b5, b6, b7, b8, b9, b10, b11, b12, b13, b14, b15, b16, b17, b18, b19, b20, b21, b22, b23, b24, b25, b26, b27, b28, b29, b30, b31, b32, true, b34, b35, b36, b37, b38, b39, x84, x85, x86, x87, x88, x89, x90, x91, x92, x93, x94, x95, x96, x97, x98, x99, x100, x101, x102, x103, x104, x105, x106, x107, x108, x109, x110, x111, x112, x113, x114, x115, .bool true, .bool true, x118, x119, x120, x121, x122, x0⟩, rfl, rfl, kB.out, ⟨k0.out, k1.out, k2.out, k3.out, k4.out, k5.out, k6.out, k7.out, k8.out, k9.out, k10.out, k11.out, k12.out, k13.out, k14.out, k15.out, k16.out, k17.out, k18.out, k19.out, k20.out, k21.out, k22.out, k23.out, k24.out, k25.out, k26.out, k27.out, k28.out, k29.out, k30.out, k31.out, (fun _ => rfl), (fun _ => rfl), k34.out, k35.out, k36.out, k37.out, k38.out, k39.out⟩⟩
      · cases ho
        have d32 : b32 = true := hdep ⟨32, .data⟩ (by simp) rfl
        obtain rfl := k32.out d32
        clear d32
        have d33 : b33 = true := hdep ⟨33, .data⟩ (by simp) rfl
        obtain rfl := k33.out d33
        clear d33
        refine wpOp_run rfl rfl ?_
        clear hdep
        unfold fr10
        go_simp
        exact ⟨⟨b0, b1, b2, b3, b4, b5, b6, b7, b8, b9, b10, b11, b12, b13, b14, b15, b16, b17, b18, b19, b20, b21, b22, b23, b24, b25, b26, b27, b28, b29, b30, b31, b32, b33, true, b35, b36, b37, b38, b39, x84, x85, x86, x87, x88, x89, x90, x91, x92, x93, x94, x95, x96, x97, x98, x99, x100, x101, x102, x103, x104, x105, x106, x107, x108, x109, x110, x111, x112, x113, x114, x115, .bool true, .bool true, .bool true, x119, x120, x121, x122, x0⟩, rfl, rfl, kB.out, ⟨k0.out, k1.out, k2.out, k3.out, k4.out, k5.out, k6.out, k7.out, k8.out, k9.out, k10.out, k11.out, k12.out, k13.out, k14.out, k15.out, k16.out, k17.out, k18.out, k19.out, k20.out, k21.out, k22.out, k23.out, k24.out, k25.out, k26.out, k27.out, k28.out, k29.out, k30.out, k31.out, (fun _ => rfl), (fun _ => rfl), (fun _ => rfl), k35.out, k36.out, k37.out, k38.out, k39.out⟩⟩
      · cases ho
        have d34 : b34 = true := hdep ⟨34, .data⟩ (by simp) rfl
        obtain rfl := k34.out d34
        clear d34
        refine wpOp_run rfl rfl ?_
        clear hdep
        unfold fr10
        go_simp
        exact ⟨⟨b0, b1, b2, b3, b4, b5, b6, b7, b8, b9, b10, b11, b12, b13, b14, b15, b16, b17, b18, b19, b20, b21, b22, b23, b24, b25, b26, b27, b28, b29, b30, b31, b32, b33, b34, true, b36, b37, b38, b39, x84, x85, x86, x87, x88, x89, x90, x91, x92, x93, x94, x95, x96, x97, x98, x99, x100, x101, x102, x103, x104, x105, x106, x107, x108, x109, x110, x111, x112, x113, x114, x115, x116, x117, .bool true, .bool true, x120, x121, x122, x0⟩, rfl, rfl, kB.out, ⟨k0.out, k1.out, k2.out, k3.out, k4.out, k5.out, k6.out, k7.out, k8.out, k9.out, k10.out, k11.out, k12.out, k13.out, k14.out, k15.out, k16.out, k17.out, k18.out, k19.out, k20.out, k21.out, k22.out, k23.out, k24.out, k25.out, k26.out, k27.out, k28.out, k29.out, k30.out, k31.out, k32.out, k33.out, (fun _ => rfl), (fun _ => rfl), k36.out, k37.out, k38.out, k39.out⟩⟩
      · cases ho
        have d35 : b35 = true := hdep ⟨35, .guard⟩ (by simp) rfl
        obtain rfl := k35.out d35
        clear d35
        refine wpOp_guard rfl rfl ?_
        clear hdep
        unfold fr10
        go_simp
        exact ⟨⟨b0, b1, b2, b3, b4, b5, b6, b7, b8, b9, b10, b11, b12, b13, b14, b15, b16, b17, b18, b19, b20, b21, b22, b23, b24, b25, b26, b27, b28, b29, b30, b31, b32, b33, b34, b35, true, b37, b38, b39, x84, x85, x86, x87, x88, x89, x90, x91, x92, x93, x94, x95, x96, x97, x98, x99, x100, x101, x102, x103, x104, x105, x106, x107, x108, x109, x110, x111, x112, x113, x114, x115, x116, x117, x118, .bool true, .bool false, x121, x122, x0⟩, rfl, rfl, kB.out, ⟨k0.out, k1.out, k2.out, k3.out, k4.out, k5.out, k6.out, k7.out, k8.out, k9.out, k10.out, k11.out, k12.out, k13.out, k14.out, k15.out, k16.out, k17.out, k18.out, k19.out, k20.out, k21.out, k22.out, k23.out, k24.out, k25.out, k26.out, k27.out, k28.out, k29.out, k30.out, k31.out, k32.out, k33.out, k34.out, (fun _ => rfl), (fun _ => rfl), k37.out, k38.out, k39.out⟩⟩
      · cases ho
        have d36 : b36 = true := hdep ⟨36, .data⟩ (by simp) rfl
        obtain rfl := k36.out d36
        clear d36
        have d35 : b35 = true := hdep ⟨35, .guard⟩ (by simp) rfl
        obtain rfl := k35.out d35
        clear d35
        refine wpOp_guard rfl rfl ?_
        clear hdep
        unfold fr10
        go_simp
        exact ⟨⟨b0, b1, b2, b3, b4, b5, b6, b7, b8, b9, b10, b11, b12, b13, b14, b15, b16, b17, b18, b19, b20, b21, b22, b23, b24, b25, b26, b27, b28, b29, b30, b31, b32, b33, b34, b35, b36, true, b38, b39, x84, x85, x86, x87, x88, x89, x90, x91, x92, x93, x94, x95, x96, x97, x98, x99, x100, x101, x102, x103, x104, x105, x106, x107, x108, x109, x110, x111, x112, x113, x114, x115, x116, x117, x118, .bool true, .bool false, .bool true, x122, x0⟩, rfl, rfl, kB.out, ⟨k0.out, k1.out, k2.out, k3.out, k4.out, k5.out, k6.out, k7.out, k8.out, k9.out, k10.out, k11.out, k12.out, k13.out, k14.out, k15.out, k16.out, k17.out, k18.out, k19.out, k20.out, k21.out, k22.out, k23.out, k24.out, k25.out, k26.out, k27.out, k28.out, k29.out, k30.out, k31.out, k32.out, k33.out, k34.out, (fun _ => rfl), (fun _ => rfl), (fun _ => rfl), k38.out, k39.out⟩⟩
      · cases ho
        have d35 : b35 = true := hdep ⟨35, .data⟩ (by simp) rfl
        obtain rfl := k35.out d35
        clear d35
        have d37 : b37 = true := hdep ⟨37, .data⟩ (by simp) rfl
        obtain rfl := k37.out d37
        clear d37
        refine wpOp_run rfl rfl ?_
        clear hdep
        unfold fr10
        go_simp
        exact ⟨⟨b0, b1, b2, b3, b4, b5, b6, b7, b8, b9, b10, b11, b12, b13, b14, b15, b16, b17, b18, b19, b20, b21, b22, b23, b24, b25, b26, b27, b28, b29, b30, b31, b32, b33, b34, b35, b36, b37, true, b39, x84, x85, x86, x87, x88, x89, x90, x91, x92, x93, x94, x95, x96, x97, x98, x99, x100, x101, x102, x103, x104, x105, x106, x107, x108, x109, x110, x111, x112, x113, x114, x115, x116, x117, x118, .bool true, x120, .bool true, .bool true, x0⟩, rfl, rfl, kB.out, ⟨k0.out, k1.out, k2.out, k3.out, k4.out, k5.out, k6.out, k7.out, k8.out, k9.out, k10.out, k11.out, k12.out, k13.out, k14.out, k15.out, k16.out, k17.out, k18.out, k19.out, k20.out, k21.out, k22.out, k23.out, k24.out, k25.out, k26.out, k27.out, k28.out, k29.out, k30.out, k31.out, k32.out, k33.out, k34.out, (fun _ => rfl), k36.out, (fun _ => rfl), (fun _ => rfl), k39.out⟩⟩
      · cases ho
        have d38 : b38 = true := hdep ⟨38, .data⟩ (by simp) rfl
        obtain rfl := k38.out d38
        clear d38
        refine wpOp_run rfl rfl ?_
        clear hdep
        unfold fr10
        go_simp
        exact ⟨⟨b0, b1, b2, b3, b4, b5, b6, b7, b8, b9, b10, b11, b12, b13, b14, b15, b16, b17, b18, b19, b20, b21, b22, b23, b24, b25, b26, b27, b28, b29, b30, b31, b32, b33, b34, b35, b36, b37, b38, true, x84, x85, x86, x87, x88, x89, x90, x91, x92, x93, x94, x95, x96, x97, x98, x99, x100, x101, x102, x103, x104, x105, x106, x107, x108, x109, x110, x111, x112, x113, x114, x115, x116, x117, x118, x119, x120, x121, .bool true, .bool true⟩, rfl, rfl, kB.out, ⟨k0.out, k1.out, k2.out, k3.out, k4.out, k5.out, k6.out, k7.out, k8.out, k9.out, k10.out, k11.out, k12.out, k13.out, k14.out, k15.out, k16.out, k17.out, k18.out, k19.out, k20.out, k21.out, k22.out, k23.out, k24.out, k25.out, k26.out, k27.out, k28.out, k29.out, k30.out, k31.out, k32.out, k33.out, k34.out, k35.out, k36.out, k37.out, (fun _ => rfl), (fun _ => rfl)⟩⟩
end Aw3
end Go.Proofs.YtbncfknjgldcbaaGreat
