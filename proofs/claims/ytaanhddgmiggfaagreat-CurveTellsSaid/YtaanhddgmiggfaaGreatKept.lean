/- What stands in memory while a law runs: facts that no callee touches. The law package's num, bucket and nacelleref02.Same. -/
import Derived.Test.YtaanhddgmiggfaaGreatBreaks
namespace Go.Proofs.YtaanhddgmiggfaaGreat
open Go.RowKit Go.Joins Go.Shelf Go.Sort Num

/-- A fact on the world that stays while memory only grows. -/
def Cl (P : World → Prop) : Prop := ∀ W W' : World, P W → Below W.heap.size W W' → P W'
/-- The world has grown from w, and the facts hold. -/
structure Kept (w : World) (l : List (World → Prop)) (W : World) : Prop where
  b : Below w.heap.size w W
  h : ∀ P ∈ l, Cl P ∧ P W
theorem Kept.start (w : World) : Kept w [] w := ⟨Below.refl _ _, fun _ h => by cases h⟩
theorem Kept.keep {w W W' : World} {l : List (World → Prop)} (k : Kept w l W) (hb : Below W.heap.size W W') : Kept w l W' :=
  ⟨k.b.trans (hb.mono k.b.size), fun P hP => ⟨(k.h P hP).1, (k.h P hP).1 W W' (k.h P hP).2 hb⟩⟩
theorem Kept.alloc {w W : World} {l : List (World → Prop)} (k : Kept w l W) (o : Obj) : Kept w l (W.alloc o) := k.keep ((Below.refl _ _).alloc (Nat.le_refl _) _)
theorem Kept.drew {w W : World} {l : List (World → Prop)} (k : Kept w l W) : Kept w l W.drew := k.keep (Below.refl _ _).drew
theorem Kept.drewN {w W : World} {l : List (World → Prop)} (k : Kept w l W) (n : Nat) : Kept w l (W.drewN n) := k.keep (below_drewN (Below.refl _ _) n)
theorem Kept.add {w W : World} {l : List (World → Prop)} (k : Kept w l W) {P : World → Prop} (hc : Cl P) (h : P W) : Kept w (P :: l) W :=
  ⟨k.b, fun Q hQ => by
    rcases List.mem_cons.1 hQ with rfl | hQ
    · exact ⟨hc, h⟩
    · exact k.h Q hQ⟩
theorem Kept.get {w W : World} {l : List (World → Prop)} (k : Kept w l W) (i : Nat) {P : World → Prop} (h : l[i]? = some P) : P W := (k.h P (List.mem_of_getElem? h)).2
/-- Block b holds the numbers n and d. -/
def isR (b : Nat) (n d : Int) : World → Prop := fun W => Has W b n d
theorem cl_isR (b : Nat) (n d : Int) : Cl (isR b n d) := fun _ _ h hb => Has.keep h hb
/-- The slice holds the buckets c. -/
def isC (A : Option Addr) (cap : Nat) (c : List Buck) : World → Prop := fun W => Sl W.heap.size W (.slice A c.length cap) c
theorem cl_isC (A : Option Addr) (cap : Nat) (c : List Buck) : Cl (isC A cap c) := fun _ _ h hb => Sl.more (Sl.below h hb (Nat.le_refl _)) hb.size
/-- The slice holds the points c. -/
def isP (A : Option Addr) (c : List Pt) : World → Prop := fun W => SlP W A c
theorem cl_isP (A : Option Addr) (c : List Pt) : Cl (isP A c) := fun _ W' h hb hc => by
  obtain ⟨g, e, hl, hr⟩ := h hc
  exact ⟨g, e, Nat.lt_of_lt_of_le hl hb.size, hr.below hb hl⟩
theorem isC.cells {A : Option Addr} {cap : Nat} {c : List Buck} {W : World} (h : isC A cap c W) (hc : c ≠ []) : ∃ b off, A = some ⟨b, off, none⟩ ∧ b < W.heap.size ∧ Row W b off c := by
  obtain ⟨A', cap', e, h'⟩ := h
  simp only [Value.slice.injEq, true_and] at e
  obtain ⟨rfl, rfl⟩ := e
  obtain ⟨b, off, e1, e2, e3⟩ := h' hc
  exact ⟨b, off, e1, e2, e3⟩
theorem isC.of_own {base : Nat} {A : Option Addr} {cap : Nat} {W : World} {c : List Buck} (h : Own4 base W (.slice A c.length cap) c) : isC A cap c W := h.sl
/-- A slice that was just built of buckets. -/
theorem isC.lit (W : World) (c : List Buck) (cap : Nat) (cs : Array Value) (h : cs.toList = cellsOf c) : isC (some ⟨W.heap.size, 0, none⟩) cap c (W.alloc (.cells cs 80)) := by
  refine ⟨_, _, rfl, fun _ => ⟨W.heap.size, 0, rfl, by simp, row_of_cells fun j u hu => ?_⟩⟩
  rw [Nat.zero_add, BoxN.cell (BoxN.new W 80 cs) j, ← hu, ← h, Array.getElem?_toList]

theorem num_any (n d : Int) (w : World) : Calls Tryz.prog 54 #[.int .i64 n, .int .i64 d] w fun e w' => e = .returned (.agg #[.int .i64 n, .int .i64 d]) ∧ Lays w w' := by
  go_enter Tryz.func54, Tryz.ntmps54
  go_wp2
  refine bodyPost_ret (v := .agg #[.int .i64 n, .int .i64 d]) (by simp [results, Tryz.results54, go_sem]) rfl ⟨rfl, (Lays.refl _).alloc _⟩
theorem bucket_any (a b c d : Int) (w : World) : Calls Tryz.prog 55 #[.agg #[.int .i64 a, .int .i64 b], .agg #[.int .i64 c, .int .i64 d]] w fun e w' => e = .returned (.agg #[.int .i64 a, .int .i64 b, .int .i64 c, .int .i64 d]) ∧ Lays w w' := by
  go_enter Tryz.func55, Tryz.ntmps55
  go_wp2
  refine bodyPost_ret (v := .agg #[.int .i64 a, .int .i64 b, .int .i64 c, .int .i64 d]) (by simp [results, Tryz.results55, go_sem]) rfl ⟨rfl, (((Lays.refl _).alloc _).alloc _).alloc _⟩

theorem neqB_run {x y : Buck} (W : World) : Sem.run Tryz.prog (binOp .neq 80 (.agg #[.int .i64 x.b.num, .int .i64 x.b.den, .int .i64 x.r.num, .int .i64 x.r.den]) (.agg #[.int .i64 y.b.num, .int .i64 y.b.den, .int .i64 y.r.num, .int .i64 y.r.den])) W = .ok (.bool (!decide (x = y))) W := by
  by_cases h : x = y
  · subst h
    simp only [decide_true, Bool.not_true]
    generalize x.b.num = a1
    generalize (x.b.den : Int) = a2
    generalize x.r.num = a3
    generalize (x.r.den : Int) = a4
    go_simp
  · rw [neq_b h W, decide_eq_false h]; rfl

set_option maxHeartbeats 2000000 in
/-- Two lists of buckets are compared one by one. -/
theorem same_any (A B : Option Addr) (ca cb : Nat) (a b : List Buck) (hla : a.length ≤ 1048576) (hlb : b.length ≤ 1048576) (w : World) (hA : isC A ca a w) (hB' : isC B cb b w) :
    Calls Tryz.prog 56 #[.slice A a.length ca, .slice B b.length cb] w fun e w' => e = .returned (.bool (decide (a = b))) ∧ Below w.heap.size w w' := by
  by_cases hl : a.length = b.length
  · go_enter Tryz.func56, Tryz.ntmps56
    go_wp2_with fail
    go_loopw [5] (fun i wr => ∃ k : Nat, k ≤ a.length ∧ i = .int .i64 k ∧ a.take k = b.take k ∧ Below w.heap.size w wr)
      (fun i _ => a.length - (intOf i).toNat)
    case atStart => exact ⟨0, Nat.zero_le _, rfl, rfl, Below.refl _ _⟩
    case round =>
      obtain ⟨k, hk, rfl, htk, hB⟩ := hrel
      by_cases hlt : k < a.length
      · have hx : a[k]? = some a[k] := List.getElem?_eq_getElem hlt
        have hy : b[k]? = some (b[k]'(by omega)) := List.getElem?_eq_getElem (by omega)
        obtain ⟨x, hxe⟩ : ∃ x, a[k] = x := ⟨_, rfl⟩
        obtain ⟨y, hye⟩ : ∃ y, b[k]'(by omega) = y := ⟨_, rfl⟩
        rw [hxe] at hx
        rw [hye] at hy
        obtain ⟨ga, oa, rfl, hla2, hra⟩ := hA.cells (by intro h; subst h; simp at hlt)
        obtain ⟨gb, ob, rfl, hlb2, hrb⟩ := hB'.cells (by intro h; rw [h] at hl; rw [hl] at hlt; simp at hlt)
        obtain ⟨x0, x1, x2, x3⟩ := hra.below hB hla2 k x hx
        obtain ⟨y0, y1, y2, y3⟩ := hrb.below hB hlb2 k y hy
        have hneq := fun W => neqB_run (x := x) (y := y) W
        have HX := Lib.hid hx
        have HY := Lib.hid hy
        have Hlen := Lib.hid hl
        have hlt2 : k < b.length := by omega
        clear hx hy hxe hye hl
        by_cases hxy : x = y
        · rw [decide_eq_true hxy] at hneq
          simp only [Bool.not_true] at hneq
          have Htk : Hid (a.take (k + 1) = b.take (k + 1)) := by unfold Hid; rw [take_succ' HX.out, take_succ' HY.out, htk, hxy]
          clear htk
          go_wp2_with fail
          go_quiet (fail)
          rename_i nq
          replace hB := below_drewN hB nq
          clear x0 x1 x2 x3 y0 y1 y2 y3 hneq
          generalize wr.drewN nq = wq at hB ⊢
          go_wp2
          go_roundw
          case rel => exact ⟨k + 1, by omega, by go_num, Htk.out, hB⟩
          case measure => simp [intOf]; omega
        · rw [decide_eq_false hxy] at hneq
          simp only [Bool.not_false] at hneq
          have hne : Hid (decide (a = b) = false) := decide_eq_false fun h => by
            subst h
            have := HX.out.symm.trans HY.out
            exact hxy (Option.some.inj this)
          clear htk
          go_wp2_with fail
          go_quiet (fail)
          rename_i nq
          replace hB := below_drewN hB nq
          clear x0 x1 x2 x3 y0 y1 y2 y3 hneq
          generalize wr.drewN nq = wq at hB ⊢
          go_wp2
          go_ret
          exact ⟨by rw [hne.out]; rfl, hB⟩
      · obtain rfl : k = a.length := by omega
        have heq : Hid (decide (a = b) = true) := decide_eq_true (by rw [List.take_length] at htk; rw [htk, hl, List.take_length])
        have Hl := Lib.hid hl
        clear htk hl
        go_wp2
        go_ret
        exact ⟨by rw [heq.out]; rfl, hB⟩
  · have hne : decide (a = b) = false := decide_eq_false fun h => hl (by rw [h])
    rw [hne]
    have hn1 : ((a.length : Int) != b.length) = true := by
      simp only [bne_iff_ne, ne_eq]; omega
    have hn2 : ((a.length : Int) == b.length) = false := by simp; omega
    clear hne
    go_enter Tryz.func56, Tryz.ntmps56
    go_wp2
    go_ret
    exact ⟨rfl, Below.refl _ _⟩
end Go.Proofs.YtaanhddgmiggfaaGreat
