/- Curves that are not valid: what the functions of package curve answer. The curve of 17 buckets. -/
import Derived.Test.YthkgmgochgjpoaaSg
import Derived.Test.YthkgmgochgjpoaaAwake
namespace Go.Proofs.Ythkgmgochgjpoaa
open Go.RowKit Go.Joins Go.Shelf Go.Sort Num

/-- The slice (A, cap) of length l holds no valid curve. -/
def isD (A : Option Addr) (cap l : Nat) : World → Prop := fun W => ∃ L : List Bk, L.length = l ∧ L.length ≤ 1048576 ∧ (∀ x ∈ L, x.bd64) ∧ valC L = false ∧ SlR W.heap.size W (.slice A L.length cap) L
theorem cl_isD (A : Option Addr) (cap l : Nat) : Cl (isD A cap l) := fun _ _ ⟨L, h1, h2, h3, h4, h5⟩ hb => ⟨L, h1, h2, h3, h4, SlR.more (h5.below hb (Nat.le_refl _)) hb.size⟩
theorem isC.rawrow {A : Option Addr} {cap : Nat} {c : List Buck} {W : World} (h : isC A cap c W) : SlR W.heap.size W (.slice A (c.map Buck.raw).length cap) (c.map Buck.raw) := by
  rw [List.length_map]
  exact slR_iff.2 h
theorem raws_bd (c : List Buck) : ∀ x ∈ c.map Buck.raw, x.bd64 := fun x hx => by
  obtain ⟨y, _, rfl⟩ := List.mem_map.1 hx
  exact raw_bd y

section
variable {A B : Option Addr} {ca cb l m : Nat} {a b : List Buck} {w : World}
theorem valid_no (h : isD A ca l w) :
    Calls Try.prog 27 #[.slice A l ca] w fun e w' => e = .returned (.bool false) ∧ Below w.heap.size w w' := by
  obtain ⟨L, rfl, h2, h3, h4, h5⟩ := h
  have k := valid_c A ca L h2 h3 w h5
  rw [h4] at k
  exact k
theorem at_no (h : isD A ca l w) :
    Calls Try.prog 26 #[.slice A l ca, .agg #[.int .i64 1, .int .i64 1]] w fun e w' => e = .returned (.tuple #[.agg #[.int .i64 0, .int .i64 0], .int .i64 2]) ∧ Below w.heap.size w w' := by
  obtain ⟨L, rfl, h2, h3, h4, h5⟩ := h
  exact at_bad A ca L 1 1 h2 h3 (by decide) (by decide) w h5 (by rw [h4]; rfl)
theorem norm_no (h : isD A ca l w) :
    Calls Try.prog 15 #[.slice A l ca] w fun e w' => e = .returned (.tuple #[.slice none 0 0, .int .i64 2]) ∧ Below w.heap.size w w' := by
  obtain ⟨L, rfl, h2, h3, h4, h5⟩ := h
  exact norm_bad A ca L h2 h3 w h5 h4
theorem breaks_no (h : isD A ca l w) :
    Calls Try.prog 22 #[.slice A l ca] w fun e w' => e = .returned (.tuple #[.slice none 0 0, .int .i64 2]) ∧ Below w.heap.size w w' := by
  obtain ⟨L, rfl, h2, h3, h4, h5⟩ := h
  exact callsIn_wide.1 (breaks_bad A ca L h2 h3 w h5 h4)
theorem rate_no (h : isD A ca l w) :
    Calls Try.prog 20 #[.slice A l ca] w fun e w' => e = .returned (.tuple #[.agg #[.int .i64 0, .int .i64 0], .int .i64 2]) ∧ Below w.heap.size w w' := by
  obtain ⟨L, rfl, h2, h3, h4, h5⟩ := h
  exact rate_bad A ca L h2 h3 w h5 h4
theorem shift_no (h : isD A ca l w) :
    Calls Try.prog 14 #[.slice A l ca, .agg #[.int .i64 1, .int .i64 1]] w fun e w' => e = .returned (.tuple #[.slice none 0 0, .int .i64 2]) ∧ Below w.heap.size w w' := by
  obtain ⟨L, rfl, h2, h3, h4, h5⟩ := h
  exact shift_bad A ca L 1 1 h2 h3 (by decide) (by decide) w h5 (by rw [h4]; rfl)
theorem sum_no (ha : isC A ca a w) (h1 : a.length ≤ 32) (h : isD B cb l w) :
    Calls Try.prog 12 #[.slice A a.length ca, .slice B l cb] w fun e w' => e = .returned (.tuple #[.slice none 0 0, .int .i64 2]) ∧ Below w.heap.size w w' := by
  obtain ⟨L, rfl, h2, h3, h4, h5⟩ := h
  have k := callsIn_wide.1 (sum_bad A B ca cb (a.map Buck.raw) L (by rw [List.length_map]; omega) (raws_bd a) h2 h3 w ha.rawrow h5 (by rw [h4]; exact Bool.and_false _))
  rw [List.length_map] at k
  exact k
theorem min_no (ha : isC A ca a w) (h1 : a.length ≤ 32) (h : isD B cb l w) :
    Calls Try.prog 13 #[.slice B l cb, .slice A a.length ca] w fun e w' => e = .returned (.tuple #[.slice none 0 0, .int .i64 2]) ∧ Below w.heap.size w w' := by
  obtain ⟨L, rfl, h2, h3, h4, h5⟩ := h
  have k := min_bad B A cb ca L (a.map Buck.raw) h2 h3 (by rw [List.length_map]; omega) (raws_bd a) w h5 ha.rawrow (by rw [h4]; rfl)
  rw [List.length_map] at k
  exact k
theorem at_neg (ha : isC A ca a w) (h1 : a.length ≤ 32) :
    Calls Try.prog 26 #[.slice A a.length ca, .agg #[.int .i64 (-1), .int .i64 1]] w fun e w' => e = .returned (.tuple #[.agg #[.int .i64 0, .int .i64 0], .int .i64 2]) ∧ Below w.heap.size w w' := by
  have k := at_bad A ca (a.map Buck.raw) (-1) 1 (by rw [List.length_map]; omega) (raws_bd a) (by decide) (by decide) w ha.rawrow (by rw [show amtB (-1) 1 = false by decide]; exact Bool.and_false _)
  rw [List.length_map] at k
  exact k
theorem shift_zero (ha : isC A ca a w) (h1 : a.length ≤ 32) :
    Calls Try.prog 14 #[.slice A a.length ca, .agg #[.int .i64 1, .int .i64 0]] w fun e w' => e = .returned (.tuple #[.slice none 0 0, .int .i64 2]) ∧ Below w.heap.size w w' := by
  have k := shift_bad A ca (a.map Buck.raw) 1 0 (by rw [List.length_map]; omega) (raws_bd a) (by decide) (by decide) w ha.rawrow (by rw [show amtB 1 0 = false by decide]; exact Bool.and_false _)
  rw [List.length_map] at k
  exact k
end

/-- The buckets of the wide curve. -/
def wB (i : Nat) : Buck := mkBuck (Rat.divInt i 1) (Rat.divInt (20 - i) 1)
theorem wB_nums : ∀ i < 17, (wB i).b.num = i ∧ (wB i).b.den = 1 ∧ (wB i).r.num = 20 - i ∧ (wB i).r.den = 1 := by decide +kernel
theorem wB_cells {i : Nat} (h : i < 17) : (wB i).cells = [.int .i64 i, .int .i64 1, .int .i64 (20 - i), .int .i64 1] := by
  obtain ⟨h1, h2, h3, h4⟩ := wB_nums i h
  unfold Buck.cells
  rw [h1, h2, h3, h4]
  rfl
def wL (k : Nat) : List Buck := (List.range k).map wB
theorem wL_len (k : Nat) : (wL k).length = k := by simp [wL]
theorem wL_succ (k : Nat) : wL (k + 1) = wL k ++ [wB k] := by unfold wL; rw [List.range_succ, List.map_append]; rfl
def two : List Buck := [mkBuck 50 1, mkBuck 51 0]
theorem cells_two : cellsOf two = [.int .i64 50, .int .i64 1, .int .i64 1, .int .i64 1, .int .i64 51, .int .i64 1, .int .i64 0, .int .i64 1] := by kernel_rfl
theorem norm_two : normL two = two := nf_uniq ⟨by decide +kernel, by decide +kernel, by decide +kernel⟩
theorem norm_17 : normL (wL 17) = wL 17 := nf_uniq ⟨by decide +kernel, by decide +kernel, by decide +kernel⟩
theorem norm_16 : normL (wL 16) = wL 16 := nf_uniq ⟨by decide +kernel, by decide +kernel, by decide +kernel⟩
theorem ok_16 : ∀ p ∈ pairsL (wL 16) two, oka p := by decide +kernel
theorem wL_pre : wL 16 <+: wL 17 := ⟨[wB 16], (wL_succ 16).symm⟩

theorem sum_many {A B : Option Addr} {ca cb : Nat} {w : World} (ha : isC A ca (wL 17) w) (hb : isC B cb two w) :
    Calls Try.prog 12 #[.slice A 17 ca, .slice B 2 cb] w fun e w' => e = .returned (.tuple #[.slice none 0 0, .int .i64 5]) ∧ Below w.heap.size w w' := by
  have k := callsIn_wide.1 (sum_in A B ca cb (wL 17) two (by rw [wL_len]; decide) (by rw [wL_len]; decide) (by decide) (by decide) w ha hb)
  rw [norm_17, norm_two, wL_len] at k
  exact k.mono fun e w' ⟨h, _, _, hb⟩ => ⟨h (by rw [wL_len]; decide), hb⟩
theorem sum_some {A B : Option Addr} {ca cb : Nat} {w : World} (ha : isC A ca (wL 16) w) (hb : isC B cb two w) :
    Calls Try.prog 12 #[.slice A 16 ca, .slice B 2 cb] w fun e w' => ∃ v, e = .returned (.tuple #[v, .int .i64 0]) ∧ Below w.heap.size w w' :=
  (sum_yes _ ha (by rw [wL_len]; decide) (by rw [wL_len]; decide) hb (by decide) (by decide) norm_16 norm_two (by rw [wL_len]; decide) ok_16 rfl rfl 16 2 (wL_len 16) rfl).mono fun e w' ⟨A', c', he, _, hb⟩ => ⟨_, he, hb⟩

theorem cur_get {cur : Array Value} {n : Nat} {xs : List Value} (h : cur.toList.take n = xs) {j : Nat} (hj : j < n) : cur[j]? = xs[j]? := by
  rw [← h, List.getElem?_take, if_pos hj]
  simp
theorem raw_of_box {W : World} {g : Nat} {t : TypeId} {cs : Array Value} {c : List Bk} (hb : BoxN W g t cs)
    (h : ∀ j x, c[j]? = some x → cs[j * 4]? = some (.int .i64 x.bn) ∧ cs[j * 4 + 1]? = some (.int .i64 x.bd) ∧ cs[j * 4 + 2]? = some (.int .i64 x.rn) ∧ cs[j * 4 + 3]? = some (.int .i64 x.rd)) : RawRow W g 0 c := fun j x hx => by
  obtain ⟨h0, h1, h2, h3⟩ := h j x hx
  rw [Nat.zero_add]
  exact ⟨(hb.cell _).trans h0, (hb.cell _).trans h1, (hb.cell _).trans h2, (hb.cell _).trans h3⟩
theorem get_set2 {cur : Array Value} {o : Nat} {u v : Value} (h : o + 1 < cur.size) (i : Nat) : ((cur.setIfInBounds o u).setIfInBounds (o + 1) v)[i]? = if i = o + 1 then some v else if i = o then some u else cur[i]? := by
  rw [Array.getElem?_setIfInBounds, Array.getElem?_setIfInBounds, Array.size_setIfInBounds]
  by_cases h1 : i = o + 1
  · rw [if_pos h1, if_pos h1.symm, if_pos h]
  · rw [if_neg h1, if_neg (fun e => h1 e.symm)]
    by_cases h2 : i = o
    · rw [if_pos h2, if_pos h2.symm, if_pos (by omega)]
    · rw [if_neg h2, if_neg (fun e => h2 e.symm)]
theorem cur_cells {cur : Array Value} {a : List Buck} (h : cur.toList.take (a.length * 4) = cellsOf a) {j : Nat} {x : Buck} (hx : a[j]? = some x) :
    cur[j * 4]? = some (.int .i64 x.b.num) ∧ cur[j * 4 + 1]? = some (.int .i64 x.b.den) ∧ cur[j * 4 + 2]? = some (.int .i64 x.r.num) ∧ cur[j * 4 + 3]? = some (.int .i64 x.r.den) := by
  have hj : j < a.length := (List.getElem?_eq_some_iff.1 hx).1
  refine ⟨?_, ?_, ?_, ?_⟩
  · rw [cur_get h (by omega), show j * 4 = j * 4 + 0 from rfl, flat_cells a j 0 x hx (by decide)]; rfl
  · rw [cur_get h (by omega), flat_cells a j 1 x hx (by decide)]; rfl
  · rw [cur_get h (by omega), flat_cells a j 2 x hx (by decide)]; rfl
  · rw [cur_get h (by omega), flat_cells a j 3 x hx (by decide)]; rfl
theorem cur_size {cur : Array Value} {a : List Buck} (h : cur.toList.take (a.length * 4) = cellsOf a) : a.length * 4 ≤ cur.size := by
  have e := congrArg List.length h
  rw [List.length_take, cellsOf_length] at e
  have e2 : cur.toList.length = cur.size := rfl
  omega
theorem isD_box {W : World} {g cap : Nat} {t : TypeId} {cs : Array Value} {a : List Buck} {k : Nat} {y : Bk} (hb : BoxN W g t cs) (h4 : a.length ≤ 4) (hk : k < a.length) (hy : y.ok = false) (hyb : y.bd64)
    (h : ∀ j x, ((a.map Buck.raw).set k y)[j]? = some x → cs[j * 4]? = some (.int .i64 x.bn) ∧ cs[j * 4 + 1]? = some (.int .i64 x.bd) ∧ cs[j * 4 + 2]? = some (.int .i64 x.rn) ∧ cs[j * 4 + 3]? = some (.int .i64 x.rd)) :
    isD (some ⟨g, 0, none⟩) cap a.length W := by
  have hl : ((a.map Buck.raw).set k y).length = a.length := by rw [List.length_set, List.length_map]
  refine ⟨(a.map Buck.raw).set k y, hl, by omega, fun x hx => ?_, ?_, ⟨_, cap, rfl, fun _ => ⟨g, 0, rfl, hb.lt, raw_of_box hb h⟩⟩⟩
  · rcases List.mem_or_eq_of_mem_set hx with hx | hx
    · exact raws_bd a x hx
    · exact hx ▸ hyb
  · unfold valC
    rw [Bool.and_eq_false_iff]
    refine .inr (List.all_eq_false.2 ⟨y, List.mem_set (by rw [List.length_map]; exact hk) y, by rw [hy]; decide⟩)
theorem set_b {cur : Array Value} {a : List Buck} {k : Nat} {z : Buck} {n d : Int} (h : cur.toList.take (a.length * 4) = cellsOf a) (hz : a[k]? = some z) :
    ∀ j x, ((a.map Buck.raw).set k ⟨n, d, z.r.num, z.r.den⟩)[j]? = some x → ((cur.setIfInBounds (k * 4) (.int .i64 n)).setIfInBounds (k * 4 + 1) (.int .i64 d))[j * 4]? = some (.int .i64 x.bn) ∧ ((cur.setIfInBounds (k * 4) (.int .i64 n)).setIfInBounds (k * 4 + 1) (.int .i64 d))[j * 4 + 1]? = some (.int .i64 x.bd) ∧ ((cur.setIfInBounds (k * 4) (.int .i64 n)).setIfInBounds (k * 4 + 1) (.int .i64 d))[j * 4 + 2]? = some (.int .i64 x.rn) ∧ ((cur.setIfInBounds (k * 4) (.int .i64 n)).setIfInBounds (k * 4 + 1) (.int .i64 d))[j * 4 + 3]? = some (.int .i64 x.rd) := by
  intro j x hx
  have hk : k < a.length := (List.getElem?_eq_some_iff.1 hz).1
  have hs := cur_size h
  simp only [get_set2 (show k * 4 + 1 < cur.size by omega)]
  rw [List.getElem?_set] at hx
  by_cases hjk : k = j
  · subst hjk
    rw [if_pos rfl, if_pos (by rw [List.length_map]; exact hk)] at hx
    cases hx
    obtain ⟨h0, h1, h2, h3⟩ := cur_cells h hz
    rw [if_neg (by omega), if_pos rfl, if_pos rfl, if_neg (by omega), if_neg (by omega), if_neg (by omega), if_neg (by omega)]
    exact ⟨rfl, rfl, h2, h3⟩
  · rw [if_neg hjk, List.getElem?_map] at hx
    obtain ⟨y, hy, rfl⟩ := Option.map_eq_some_iff.1 hx
    rw [if_neg (by omega), if_neg (by omega), if_neg (by omega), if_neg (by omega), if_neg (by omega), if_neg (by omega), if_neg (by omega), if_neg (by omega)]
    exact cur_cells h hy
theorem set_r {cur : Array Value} {a : List Buck} {k : Nat} {z : Buck} {n d : Int} (h : cur.toList.take (a.length * 4) = cellsOf a) (hz : a[k]? = some z) :
    ∀ j x, ((a.map Buck.raw).set k ⟨z.b.num, z.b.den, n, d⟩)[j]? = some x → ((cur.setIfInBounds (k * 4 + 2) (.int .i64 n)).setIfInBounds (k * 4 + 2 + 1) (.int .i64 d))[j * 4]? = some (.int .i64 x.bn) ∧ ((cur.setIfInBounds (k * 4 + 2) (.int .i64 n)).setIfInBounds (k * 4 + 2 + 1) (.int .i64 d))[j * 4 + 1]? = some (.int .i64 x.bd) ∧ ((cur.setIfInBounds (k * 4 + 2) (.int .i64 n)).setIfInBounds (k * 4 + 2 + 1) (.int .i64 d))[j * 4 + 2]? = some (.int .i64 x.rn) ∧ ((cur.setIfInBounds (k * 4 + 2) (.int .i64 n)).setIfInBounds (k * 4 + 2 + 1) (.int .i64 d))[j * 4 + 3]? = some (.int .i64 x.rd) := by
  intro j x hx
  have hk : k < a.length := (List.getElem?_eq_some_iff.1 hz).1
  have hs := cur_size h
  simp only [get_set2 (show k * 4 + 2 + 1 < cur.size by omega)]
  rw [List.getElem?_set] at hx
  by_cases hjk : k = j
  · subst hjk
    rw [if_pos rfl, if_pos (by rw [List.length_map]; exact hk)] at hx
    cases hx
    obtain ⟨h0, h1, h2, h3⟩ := cur_cells h hz
    rw [if_neg (by omega), if_neg (by omega), if_neg (by omega), if_neg (by omega), if_neg (by omega), if_pos rfl, if_pos (by omega)]
    exact ⟨h0, h1, rfl, rfl⟩
  · rw [if_neg hjk, List.getElem?_map] at hx
    obtain ⟨y, hy, rfl⟩ := Option.map_eq_some_iff.1 hx
    rw [if_neg (by omega), if_neg (by omega), if_neg (by omega), if_neg (by omega), if_neg (by omega), if_neg (by omega), if_neg (by omega), if_neg (by omega)]
    exact cur_cells h hy
theorem isD_nil (W : World) : isD none 0 0 W := ⟨[], rfl, by decide, fun x hx => absurd hx (by simp), by decide, ⟨none, 0, rfl, fun h => absurd rfl h⟩⟩

/-- 132 numbers. -/
def IntC (cs : Array Value) : Prop := cs.size = 132 ∧ ∀ o, o < 132 → ∃ n : Int, I64 n ∧ cs[o]? = some (.int .i64 n)
theorem IntC.set {cs : Array Value} (h : IntC cs) (o : Nat) {n : Int} (hn : I64 n) : IntC (cs.setIfInBounds o (.int .i64 n)) := ⟨by rw [Array.size_setIfInBounds]; exact h.1, fun i hi => by
  rw [Array.getElem?_setIfInBounds]
  by_cases e : o = i
  · rw [if_pos e, if_pos (by rw [h.1]; omega)]
    exact ⟨n, hn, rfl⟩
  · rw [if_neg e]
    exact h.2 i hi⟩
theorem make33 (w : World) : ∃ cs, IntC cs ∧ (Instr.makeSlice 25 (.int .i64 33) (.int .i64 33)).run Try.prog w = .ok (.slice (some ⟨w.heap.size, 0, none⟩) 33 33) (w.alloc (.cells cs 45)) := by
  obtain ⟨i0, hi, hz0, hz1, hz2⟩ := info_parts infoB
  have h := run_makeSlice (P := Try.prog) w 25 45 i0 _ Try.underlying25 hi hz0 .i64 .i64 33 33 (by decide) (by decide) (by rw [hz1]; decide) (by rw [hz2]; decide) (by decide)
  rw [hz1] at h
  refine ⟨_, ?_, h⟩
  have e : madeCells (Value.agg #[.int .i64 0, .int .i64 0, .int .i64 0, .int .i64 0]).cells ((33 : Int).toNat * 4) = Array.replicate 132 (.int .i64 0) := by kernel_rfl
  rw [e]
  exact ⟨Array.size_replicate, fun o ho => ⟨0, by decide, by simp [ho]⟩⟩
def numAt (cs : Array Value) (o : Nat) : Int := match cs[o]? with | some (.int _ n) => n | _ => 0
theorem numAt_is {cs : Array Value} (h : IntC cs) {o : Nat} (ho : o < 132) : cs[o]? = some (.int .i64 (numAt cs o)) ∧ I64 (numAt cs o) := by
  obtain ⟨n, h1, h2⟩ := h.2 o ho
  unfold numAt
  rw [h2]
  exact ⟨rfl, h1⟩
theorem isD_33 {W : World} {g cap : Nat} {t : TypeId} {cs : Array Value} (hb : BoxN W g t cs) (h : IntC cs) : isD (some ⟨g, 0, none⟩) cap 33 W := by
  obtain ⟨L, hL⟩ : ∃ L : List Bk, L = (List.range 33).map fun j => ⟨numAt cs (j * 4), numAt cs (j * 4 + 1), numAt cs (j * 4 + 2), numAt cs (j * 4 + 3)⟩ := ⟨_, rfl⟩
  have hl : L.length = 33 := by rw [hL, List.length_map, List.length_range]
  refine ⟨L, hl, by omega, fun x hx => ?_, ?_, ⟨_, cap, rfl, fun _ => ⟨g, 0, rfl, hb.lt, raw_of_box hb fun j x hx => ?_⟩⟩⟩
  · rw [hL] at hx
    obtain ⟨j, hj, rfl⟩ := List.mem_map.1 hx
    have hj' := List.mem_range.1 hj
    exact ⟨(numAt_is h (by omega)).2, (numAt_is h (by omega)).2, (numAt_is h (by omega)).2, (numAt_is h (by omega)).2⟩
  · unfold valC
    rw [hl]
    rfl
  · have hj : j < 33 := by have := (List.getElem?_eq_some_iff.1 hx).1; omega
    rw [hL, List.getElem?_map, List.getElem?_range hj] at hx
    cases hx
    exact ⟨(numAt_is h (by omega)).1, (numAt_is h (by omega)).1, (numAt_is h (by omega)).1, (numAt_is h (by omega)).1⟩
end Go.Proofs.Ythkgmgochgjpoaa
