/- Merged texts: RApp, RValid, RDom. -/
import Derived.Test.YtbncfknjgldcbaaGreatM4
import Derived.Test.YtbncfknjgldcbaaGreatM6
import Derived.Test.YtbncfknjgldcbaaGreatM5
/- Cutting parts of slices. -/
namespace Go.Proofs.YtbncfknjgldcbaaGreat.Ref
open Go.RowKit Go.Joins Go.Shelf Go.Sort Num

/-- A row that is nil where it is empty, or stands at a block's beginning. -/
def OutS (W : World) (v : Value) (L : List Buck) : Prop :=
  (v = .slice none 0 0 ∧ L = []) ∨ ∃ g cap, v = .slice (some ⟨g, 0, none⟩) L.length cap ∧ 0 < cap ∧ L.length ≤ cap ∧ g < W.heap.size ∧ Row W g 0 L
theorem OutS.nil (W : World) : OutS W (.slice none 0 0) [] := .inl ⟨rfl, rfl⟩
theorem OutS.keep {W W' : World} {v : Value} {L : List Buck} (h : OutS W v L) (hb : Below W.heap.size W W') : OutS W' v L := by
  rcases h with h | ⟨g, cap, h1, h2, h3, h4, h5⟩
  · exact .inl h
  · exact .inr ⟨g, cap, h1, h2, h3, Nat.lt_of_lt_of_le h4 hb.size, h5.below hb h4⟩
theorem OutS.form {W : World} {v : Value} {L : List Buck} (h : OutS W v L) : ∃ A cap, v = .slice A L.length cap := by
  rcases h with ⟨h1, h2⟩ | ⟨g, cap, h1, -⟩
  · subst h2; exact ⟨_, _, h1⟩
  · exact ⟨_, _, h1⟩
theorem OutS.sl {W : World} {v : Value} {L : List Buck} (h : OutS W v L) : Sl W.heap.size W v L := by
  rcases h with ⟨rfl, rfl⟩ | ⟨g, cap, rfl, -, -, h4, h5⟩
  · exact ⟨none, 0, rfl, fun k => absurd rfl k⟩
  · exact ⟨_, _, rfl, fun _ => ⟨g, 0, rfl, h4, h5⟩⟩
theorem OutS.isC {W : World} {A : Option Addr} {cap : Nat} {L : List Buck} (h : OutS W (.slice A L.length cap) L) : isC A cap L W := h.sl
theorem OutS.of_own {base : Nat} {W : World} {g cap : Nat} {L : List Buck} (h : W.ownsRow base 80 4 (.slice (some ⟨g, 0, none⟩) L.length cap) L.length (cellsOf L)) (hL : L ≠ []) : OutS W (.slice (some ⟨g, 0, none⟩) L.length cap) L := by
  obtain ⟨-, hlt⟩ := own_lt h
  have hc : L.length ≤ cap := by
    rcases h.2 with ⟨k, _⟩ | ⟨g', c', cur, k, _, _, hnc, _⟩
    · simp at k
    · simp only [Value.slice.injEq] at k; omega
  have hp := List.length_pos_iff.2 hL
  exact .inr ⟨g, cap, rfl, by omega, hc, hlt, row_of_holdsK (holdsK_of_own h)⟩
theorem OutS.of_own' {base : Nat} {W : World} {g l cap : Nat} {M : List Buck} {xs : List Value} (h : W.ownsRow base 80 4 (.slice (some ⟨g, 0, none⟩) l cap) l xs) (hl : l = M.length) (hx : xs = cellsOf M) (hM : M ≠ []) : OutS W (.slice (some ⟨g, 0, none⟩) l cap) M := by
  subst hl hx
  exact .of_own h hM
theorem row_take {W : World} {b off : Nat} {c : List Buck} (n : Nat) (h : Row W b off c) : Row W b off (c.take n) := fun j x hx => by
  refine h j x ?_
  rw [List.getElem?_take] at hx
  split at hx
  · exact hx
  · cases hx
theorem row_drop {W : World} {b off : Nat} {c : List Buck} (n : Nat) (h : Row W b off c) : Row W b (off + n * 4) (c.drop n) := fun j x hx => by
  rw [List.getElem?_drop] at hx
  have := h (n + j) x hx
  rwa [show off + (n + j) * 4 = off + n * 4 + j * 4 by rw [Nat.add_mul]; omega] at this
/-- The first n elements. -/
theorem cutC_to {W : World} {v : Value} {L : List Buck} (h : OutS W v L) (n : Nat) (hn : n ≤ L.length) :
    ∃ v', (∀ w : World, (Instr.slice 23 v none (some (.int .i64 ↑n)) none).run Tryz.prog w = .ok v' w) ∧ ∀ W' : World, Below W.heap.size W W' → Part W' v' n (cellsOf (L.take n)) := by
  rcases h with ⟨rfl, rfl⟩ | ⟨g, cap, rfl, h1, h2, h3, h4⟩
  · obtain rfl : n = 0 := by simpa using hn
    refine ⟨.slice none 0 0, fun w => ?_, fun _ _ => .inl ⟨rfl, rfl, rfl⟩⟩
    rw [run_slice_h w 23 _ 0 0 (by kernel_rfl) .i64 ((0 : Nat) : Int) (by omega) (by omega)]
    have e2 : (sizeOf (Tryz.prog.elem 23)).run Tryz.prog w = .ok 4 w := by kernel_rfl
    rw [e2]
    rfl
  · refine ⟨.slice (some ⟨g, 0, none⟩) n cap, fun w => ?_, fun W' hW => .inr ⟨_, _, rfl, row_cells ((row_take n h4).below hW h3)⟩⟩
    rw [run_slice_h w 23 _ L.length cap (by kernel_rfl) .i64 ↑n (by omega) (by omega)]
    have e2 : (sizeOf (Tryz.prog.elem 23)).run Tryz.prog w = .ok 4 w := by kernel_rfl
    rw [Int.toNat_natCast, e2]
    simp only [Result.andThen, sliced]
    simp [show ¬ cap = 0 by omega, Addr.add]
/-- The elements from n on. -/
theorem cutC_from {W : World} {v : Value} {L : List Buck} (h : OutS W v L) (n : Nat) (hn : n ≤ L.length) :
    ∃ v', (∀ w : World, (Instr.slice 23 v (some (.int .i64 ↑n)) none none).run Tryz.prog w = .ok v' w) ∧ ∀ W' : World, Below W.heap.size W W' → Part W' v' (L.length - n) (cellsOf (L.drop n)) := by
  rcases h with ⟨rfl, rfl⟩ | ⟨g, cap, rfl, h1, h2, h3, h4⟩
  · obtain rfl : n = 0 := by simpa using hn
    refine ⟨.slice none 0 0, fun w => ?_, fun _ _ => .inl ⟨rfl, rfl, rfl⟩⟩
    rw [run_slice_l w 23 _ 0 0 (by kernel_rfl) .i64 ((0 : Nat) : Int) (by omega) (by omega)]
    have e2 : (sizeOf (Tryz.prog.elem 23)).run Tryz.prog w = .ok 4 w := by kernel_rfl
    rw [e2]
    rfl
  · have e2 : ∀ w, (sizeOf (Tryz.prog.elem 23)).run Tryz.prog w = .ok 4 w := fun w => by kernel_rfl
    by_cases hc : cap = n
    · have hln : L.length = n := by omega
      refine ⟨.slice (some ⟨g, 0, none⟩) (L.length - n) (cap - n), fun w => ?_, fun W' hW => .inr ⟨_, _, rfl, fun j u hu => ?_⟩⟩
      · rw [run_slice_l w 23 _ L.length cap (by kernel_rfl) .i64 ↑n (by omega) (by omega), Int.toNat_natCast, e2]
        simp only [Result.andThen, sliced]
        simp [hc]
      · rw [List.drop_eq_nil_of_le (by omega)] at hu
        cases hu
    · refine ⟨.slice (some ⟨g, n * 4, none⟩) (L.length - n) (cap - n), fun w => ?_, fun W' hW => .inr ⟨_, _, rfl, row_cells ?_⟩⟩
      · rw [run_slice_l w 23 _ L.length cap (by kernel_rfl) .i64 ↑n (by omega) (by omega), Int.toNat_natCast, e2]
        simp only [Result.andThen, sliced]
        simp [hc, Addr.add]
        intro h; omega
      · have := row_drop n (h4.below hW h3)
        rwa [Nat.zero_add] at this
theorem eqlB_run {x y : Buck} (W : World) : Sem.run Tryz.prog (binOp .eql 80 (.agg #[.int .i64 x.b.num, .int .i64 x.b.den, .int .i64 x.r.num, .int .i64 x.r.den]) (.agg #[.int .i64 y.b.num, .int .i64 y.b.den, .int .i64 y.r.num, .int .i64 y.r.den])) W = .ok (.bool (decide (x = y))) W := by
  have hn : (x = y) ↔ (x.b.num = y.b.num ∧ (x.b.den : Int) = y.b.den ∧ x.r.num = y.r.num ∧ (x.r.den : Int) = y.r.den) := ⟨fun h => by rw [h]; exact ⟨rfl, rfl, rfl, rfl⟩, fun ⟨h1, h2, h3, h4⟩ => Buck.ext' (Rat.ext h1 (by omega)) (Rat.ext h3 (by omega))⟩
  simp only [hn]
  generalize x.b.num = a1
  generalize (x.b.den : Int) = a2
  generalize x.r.num = a3
  generalize (x.r.den : Int) = a4
  generalize y.b.num = b1
  generalize (y.b.den : Int) = b2
  generalize y.r.num = b3
  generalize (y.r.den : Int) = b4
  go_simp
  repeat' split
  all_goals (first | rfl | omega | (simp; omega) | (simp_all))
end Go.Proofs.YtbncfknjgldcbaaGreat.Ref
/- The reference's Valid at every curve. -/
namespace Go.Proofs.YtbncfknjgldcbaaGreat.Ref
open Go.RowKit Go.Joins Go.Shelf Go.Sort Num

theorem val_of_lt {c : List Bk} (h : c.length < 1) : valC c = false := by unfold valC; simp; omega
theorem val_of_gt {c : List Bk} (h : 32 < c.length) : valC c = false := by unfold valC; simp; omega
theorem val_all {c : List Bk} (h1 : ¬ c.length < 1) (h2 : ¬ 32 < c.length) : valC c = c.all Bk.ok := by unfold valC; rw [decide_eq_true (by omega), decide_eq_true (by omega)]; rfl

set_option maxRecDepth 100000 in
set_option maxHeartbeats 4000000 in
theorem valid_c (A : Option Addr) (cap : Nat) (c : List Bk) (hlen : c.length ≤ 1048576) (hbd : ∀ x ∈ c, x.bd64) (w : World) (hI : SlR w.heap.size w (.slice A c.length cap) c) :
    Calls Tryz.prog 13 #[.slice A c.length cap] w fun e w' => e = .returned (.bool (valC c)) ∧ Below w.heap.size w w' := by
  obtain ⟨A', cap', e, hrow⟩ := hI
  simp only [Value.slice.injEq, true_and] at e
  obtain ⟨rfl, rfl⟩ := e
  have HC : Hid (∀ (x : Bk), x.bd64 → ∀ W : World, _) := fun x h W => good_any x.bn x.bd W h.h1.1 h.h1.2 h.h2.1 h.h2.2
  have HR : Hid (∀ (x : Bk), x.bd64 → ∀ W : World, _) := fun x h W => good_any x.rn x.rd W h.h3.1 h.h3.2 h.h4.1 h.h4.2
  by_cases h1 : c.length < 1
  · rw [val_of_lt h1]
    clear hrow HC HR hbd
    have h1' : decide ((c.length : Int) < 1) = true := by simp; omega
    go_enter Tryz.func13, Tryz.ntmps13
    go_wp2_with fail
    go_ret
    exact ⟨rfl, Below.refl _ _⟩
  by_cases h2 : 32 < c.length
  · rw [val_of_gt h2]
    clear hrow HC HR hbd
    have h1' : decide ((c.length : Int) < 1) = false := by simp; omega
    go_enter Tryz.func13, Tryz.ntmps13
    go_wp2_with fail
    go_ret
    exact ⟨rfl, Below.refl _ _⟩
  rw [val_all h1 h2]
  obtain ⟨b, off, rfl, hb, hr⟩ := hrow (by intro h; subst h; simp at h1)
  have h1' : decide ((c.length : Int) < 1) = false := by simp; omega
  have h2' : ¬ (32 : Int) < c.length := by omega
  go_enter Tryz.func13, Tryz.ntmps13
  go_wp2_with fail
  go_loopw [3] (fun i wr => ∃ k : Nat, k ≤ c.length ∧ i = .int .i64 k ∧ (c.take k).all Bk.ok = true ∧ Below w.heap.size w wr)
    (fun i _ => c.length - (intOf i).toNat)
  case atStart => exact ⟨0, Nat.zero_le _, rfl, by simp, Below.refl _ _⟩
  case round =>
    obtain ⟨k, hk, rfl, hall, hBr⟩ := hrel
    by_cases hlt : k < c.length
    · have hx : c[k]? = some c[k] := List.getElem?_eq_getElem hlt
      obtain ⟨x, hxe⟩ : ∃ x, c[k] = x := ⟨_, rfl⟩
      rw [hxe] at hx
      have hts := take_succ' hx
      have hall2 : Hid ((c.take (k + 1)).all Bk.ok = x.ok) := by unfold Hid; rw [hts, List.all_append, hall]; simp
      have hmem : x ∈ c := List.mem_of_getElem? hx
      have hno : Hid (x.ok = false → c.all Bk.ok = false) := fun h => by rw [List.all_eq_false]; exact ⟨x, hmem, by simp [h]⟩
      have C1 := fun W => HC.out x (hbd x hmem) W
      have C2 := fun W => HR.out x (hbd x hmem) W
      have C1 := Lib.hid C1
      have C2 := Lib.hid C2
      obtain ⟨c0, c1, c2, c3⟩ := hr.below hBr hb k x hx
      have hwz := hBr.size
      have hbz : b < wr.heap.size := by omega
      clear hx hxe hts hall
      have hok : Hid (x.ok = (amtB x.bn x.bd && amtB x.rn x.rd)) := rfl
      generalize amtB x.bn x.bd = a1 at C1 hok
      generalize amtB x.rn x.rd = a2 at C2 hok
      cases a1
      · go_wp2_with fail
        refine (C1.out _).mono ?_; rintro e w1 ⟨rfl, hb1⟩
        have hB1 := Lib.hid (hBr.trans (hb1.mono hBr.size))
        clear hb1
        go_wp2
        go_ret
        exact ⟨ret_bool (hno.out hok.out).symm, hB1.out⟩
      · go_wp2_with fail
        refine (C1.out _).mono ?_; rintro e w1 ⟨rfl, hb1⟩
        have hB1 := hBr.trans (hb1.mono hBr.size)
        have d2 := (hb1.cell (p := ⟨b, off + k * 4 + 2, none⟩) hbz).trans c2
        have d3 := (hb1.cell (p := ⟨b, off + k * 4 + 3, none⟩) hbz).trans c3
        clear c0 c1 c2 c3 hb1
        go_wp2_with fail
        refine (C2.out _).mono ?_; rintro e w2 ⟨rfl, hb2⟩
        have hB2 : Below w.heap.size w w2 := hB1.trans (hb2.mono hB1.size)
        clear d2 d3 hb2
        cases a2
        · go_wp2
          go_ret
          exact ⟨ret_bool (hno.out hok.out).symm, hB2⟩
        · go_wp2
          go_roundw
          case rel => exact ⟨k + 1, by omega, by go_num, by rw [hall2.out]; exact hok.out, hB2⟩
          case measure => simp [intOf]; omega
    · obtain rfl : k = c.length := by omega
      rw [List.take_length] at hall
      go_wp2_with fail
      go_ret
      exact ⟨ret_bool hall.symm, hBr⟩

theorem valid_ok {A : Option Addr} {cap : Nat} {c : List Buck} (hl1 : 1 ≤ c.length) (hl2 : c.length ≤ 32) {W : World} (hI : Sl W.heap.size W (.slice A c.length cap) c) :
    Calls Tryz.prog 13 #[.slice A c.length cap] W fun e w' => e = .returned (.bool true) ∧ Below W.heap.size W w' := by
  have := valid_c A cap (c.map Buck.raw) (by simp; omega) (fun x hx => by obtain ⟨y, -, rfl⟩ := List.mem_map.1 hx; exact raw_bd y) W (by simpa using slR_iff.2 hI)
  rw [val_true hl1 hl2] at this
  simpa using this
theorem good_ok {t : Rat} (ht : Fit t) (ht0 : 0 ≤ t) (W : World) :
    Calls Tryz.prog 51 #[.agg #[.int .i64 t.num, .int .i64 t.den]] W fun e w' => e = .returned (.bool true) ∧ Below W.heap.size W w' := by
  have htb := fit_bd ht
  have := good_any t.num t.den W (by omega) (by omega) (by omega) (by omega)
  rwa [amt_true ht ht0] at this
end Go.Proofs.YtbncfknjgldcbaaGreat.Ref
/- The reference's dominated. -/
namespace Go.Proofs.YtbncfknjgldcbaaGreat.Ref
open Go.RowKit Go.Joins Go.Shelf Go.Sort Num

theorem dom_at {c : List Buck} {i : Nat} {x : Buck} (hx : c[i]? = some x) : Dom c i ↔ ∃ (k : Nat) (y : Buck), c[k]? = some y ∧ ((y = x ∧ k < i) ∨ (y ≠ x ∧ y.le x)) := by
  constructor
  · rintro ⟨x', hx', h⟩
    rw [hx] at hx'
    cases hx'
    rcases h with ⟨k, h1, h2⟩ | ⟨k, y, h1, h2, h3⟩
    · exact ⟨k, x, h2, .inl ⟨rfl, h1⟩⟩
    · exact ⟨k, y, h1, .inr ⟨h2, h3⟩⟩
  · rintro ⟨k, y, h1, h⟩
    refine ⟨x, hx, ?_⟩
    rcases h with ⟨rfl, h2⟩ | ⟨h2, h3⟩
    · exact .inl ⟨k, h2, h1⟩
    · exact .inr ⟨k, y, h1, h2, h3⟩
def DomB (x : Buck) (i k : Nat) (y : Buck) : Prop := (y = x ∧ k < i) ∨ (y ≠ x ∧ y.le x)

set_option maxRecDepth 100000 in
set_option maxHeartbeats 4000000 in
theorem dom_any (A : Option Addr) (cap : Nat) (c : List Buck) (i : Nat) (x : Buck) (hx : c[i]? = some x) (hlen : c.length ≤ 1048576) (w : World) (hA : isC A cap c w) :
    Calls Tryz.prog 56 #[.slice A c.length cap, .int .i64 ↑i] w fun e w' => (∃ v, e = .returned (.bool v) ∧ (v = true ↔ Dom c i)) ∧ Below w.heap.size w w' := by
  have HC : Hid (∀ (x y : Buck) (W : World), _) := fun x y W => cmp_r x.hb y.hb W
  have HD : Hid (∀ (x y : Buck) (W : World), _) := fun x y W => cmp_r x.hr y.hr W
  have hil : i < c.length := (List.getElem?_eq_some_iff.1 hx).1
  obtain ⟨b, off, rfl, hb, hr⟩ := hA.cells (by intro h; subst h; simp at hil)
  have hD := Lib.hid (dom_at hx)
  have Hx := Lib.hid hx
  clear hx
  go_enter Tryz.func56, Tryz.ntmps56
  go_wp2_with fail
  go_loopw [5] (fun s wr => ∃ k : Nat, k ≤ c.length ∧ s = .int .i64 ↑k ∧ Hid (∀ j y, j < k → c[j]? = some y → ¬ DomB x i j y) ∧ Below w.heap.size w wr)
    (fun s _ => c.length - (intOf s).toNat)
  case atStart => exact ⟨0, Nat.zero_le _, rfl, fun j y h => absurd h (Nat.not_lt_zero _), Below.refl _ _⟩
  case round =>
    obtain ⟨k, hk, rfl, hno, hB⟩ := hrel
    by_cases hlt : k < c.length
    · have hy : c[k]? = some c[k] := List.getElem?_eq_getElem hlt
      obtain ⟨y, hye⟩ : ∃ y, c[k] = y := ⟨_, rfl⟩
      rw [hye] at hy
      have hrow := hr.below hB hb
      obtain ⟨x0, x1, x2, x3⟩ := hrow i x Hx.out
      obtain ⟨y0, y1, y2, y3⟩ := hrow k y hy
      have hbz : b < wr.heap.size := Nat.lt_of_lt_of_le hb hB.size
      have heql := fun W => eqlB_run (x := y) (y := x) W
      have hstep : Hid (¬ DomB x i k y → ∀ j y, j < k + 1 → c[j]? = some y → ¬ DomB x i j y) := fun h j y' hj hj' => by
        by_cases e : j = k
        · subst e
          rw [hy] at hj'
          cases hj'
          exact h
        · exact hno.out j y' (by omega) hj'
      have hyes : Hid (DomB x i k y → Dom c i) := fun h => hD.out.2 ⟨k, y, hy, h⟩
      have Hrow := Lib.hid hrow
      have Hy := Lib.hid hy
      clear hy hye hno hrow
      by_cases hyx : y = x
      · rw [decide_eq_true hyx] at heql
        have Hyx := Lib.hid hyx
        clear hyx
        go_wp2_with fail
        go_quiet (fail)
        rename_i nq
        replace hB := below_drewN hB nq
        clear x0 x1 x2 x3 y0 y1 y2 y3 heql
        generalize wr.drewN nq = wq at hB ⊢
        by_cases hki : k < i
        · have hd : Hid (Dom c i) := hyes.out (.inl ⟨Hyx.out, hki⟩)
          have z : (k : Int) < i := by omega
          go_wp2
          go_ret
          exact ⟨⟨true, rfl, by simp [hd.out]⟩, hB⟩
        · have hd := Lib.hid (hstep.out (fun h => by
            rcases h with ⟨_, h⟩ | ⟨h, _⟩
            · exact hki h
            · exact h Hyx.out))
          have z : decide ((k : Int) < i) = false := by simp; omega
          go_wp2
          go_roundw
          case rel => exact ⟨k + 1, by omega, by go_num, hd, hB⟩
          case measure => simp [intOf]; omega
      · rw [decide_eq_false hyx] at heql
        have Hyx := Lib.hid hyx
        clear hyx
        go_wp2_with fail
        go_quiet (fail)
        rename_i nq
        replace hB := below_drewN hB nq
        have hbd : Below wr.heap.size wr (wr.drewN nq) := below_drewN (Below.refl _ _) nq
        have hrow := Hrow.out.below hbd hbz
        have hbz2 : b < (wr.drewN nq).heap.size := Nat.lt_of_lt_of_le hbz hbd.size
        clear x0 x1 x2 x3 y0 y1 y2 y3 heql Hrow hbd hbz
        generalize wr.drewN nq = wq at hB hrow hbz2 ⊢
        obtain ⟨x0, x1, x2, x3⟩ := hrow i x Hx.out
        obtain ⟨y0, y1, y2, y3⟩ := hrow k y Hy.out
        go_wp2_with fail
        have p0 := Gr.cell x0 hbz2
        have p1 := Gr.cell x1 hbz2
        have p2 := Gr.cell x2 hbz2
        have p3 := Gr.cell x3 hbz2
        have q0 := Gr.cell y0 hbz2
        have q1 := Gr.cell y1 hbz2
        have q2 := Gr.cell y2 hbz2
        have q3 := Gr.cell y3 hbz2
        haveI : Nonempty (Wd (Gr wq)) := ⟨⟨wq, Below.refl _ _⟩⟩
        have hafter : ∀ s0 : Wd (Gr wq), Below w.heap.size w s0.val := fun s0 => hB.trans ((s0.ok : Below _ _ _).mono hB.size)
        have Haf := Lib.hid hafter
        have hle1 := @cmpQ_le y.b x.b
        have hle2 := @cmpQ_le y.r x.r
        have HC1 := HC.out y x
        have HD1 := HD.out y x
        generalize cmpQ y.b x.b = k1 at HC1 hle1
        generalize cmpQ y.r x.r = k2 at HD1 hle2
        have Hle1 := Lib.hid hle1
        have Hle2 := Lib.hid hle2
        have HC1 := Lib.hid HC1
        have HD1 := Lib.hid HD1
        clear hle1 hle2 hafter x0 x1 x2 x3 y0 y1 y2 y3 hrow
        by_cases h1 : k1 ≤ 0
        · by_cases h2 : k2 ≤ 0
          · have hd : Hid (Dom c i) := hyes.out (.inr ⟨Hyx.out, Hle1.out.1 h1, Hle2.out.1 h2⟩)
            refine wp_region_cls (Gr wq) (by kernel_rfl) (by kernel_rfl) (Gr.start wq) ?_
            repeat (go_big_quiet_step (first | (go_at_call 53; (with_reducible exact Calls.cls Gr.close (HC1.out _))) | (go_at_call 53; (with_reducible exact Calls.cls Gr.close (HD1.out _)))))
            refine wpQuiet_nil ?_
            intro _ hw'
            obtain ⟨s0, rfl⟩ := hw'
            have hB' := Haf.out s0
            clear p0 p1 p2 p3 q0 q1 q2 q3
            generalize s0.val = v1 at hB' ⊢
            go_wp2
            go_ret
            exact ⟨⟨true, rfl, by simp [hd.out]⟩, hB'⟩
          · have hd := Lib.hid (hstep.out (fun h => by
              rcases h with ⟨h, _⟩ | ⟨_, h⟩
              · exact Hyx.out h
              · exact h2 (Hle2.out.2 h.2)))
            have z2 : decide (k2 ≤ 0) = false := by simp; omega
            refine wp_region_cls (Gr wq) (by kernel_rfl) (by kernel_rfl) (Gr.start wq) ?_
            repeat (go_big_quiet_step (first | (go_at_call 53; (with_reducible exact Calls.cls Gr.close (HC1.out _))) | (go_at_call 53; (with_reducible exact Calls.cls Gr.close (HD1.out _)))))
            refine wpQuiet_nil ?_
            intro _ hw'
            obtain ⟨s0, rfl⟩ := hw'
            have hB' := Haf.out s0
            clear p0 p1 p2 p3 q0 q1 q2 q3
            generalize s0.val = v1 at hB' ⊢
            go_wp2
            go_roundw
            case rel => exact ⟨k + 1, by omega, by go_num, hd, hB'⟩
            case measure => simp [intOf]; omega
        · have hd := Lib.hid (hstep.out (fun h => by
            rcases h with ⟨h, _⟩ | ⟨_, h⟩
            · exact Hyx.out h
            · exact h1 (Hle1.out.2 h.1)))
          have z1 : decide (k1 ≤ 0) = false := by simp; omega
          refine wp_region_cls (Gr wq) (by kernel_rfl) (by kernel_rfl) (Gr.start wq) ?_
          repeat (go_big_quiet_step (first | (go_at_call 53; (with_reducible exact Calls.cls Gr.close (HC1.out _))) | (go_at_call 53; (with_reducible exact Calls.cls Gr.close (HD1.out _)))))
          refine wpQuiet_nil ?_
          intro _ hw'
          obtain ⟨s0, rfl⟩ := hw'
          have hB' := Haf.out s0
          clear p0 p1 p2 p3 q0 q1 q2 q3
          generalize s0.val = v1 at hB' ⊢
          go_wp2
          go_roundw
          case rel => exact ⟨k + 1, by omega, by go_num, hd, hB'⟩
          case measure => simp [intOf]; omega
    · obtain rfl : k = c.length := by omega
      have hd : Hid (¬ Dom c i) := fun h => by
        obtain ⟨j, y, h1, h2⟩ := hD.out.1 h
        exact hno.out j y (List.getElem?_eq_some_iff.1 h1).1 h1 h2
      clear hno
      go_wp2
      go_ret
      exact ⟨⟨false, rfl, by simp [hd.out]⟩, hB⟩
end Go.Proofs.YtbncfknjgldcbaaGreat.Ref
