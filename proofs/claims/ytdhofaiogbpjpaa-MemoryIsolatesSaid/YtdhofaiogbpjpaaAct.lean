/- act, and what partitions do to each other: nothing. Rows of rows of numbers. -/
import Derived.Test.YtdhofaiogbpjpaaKeeps
namespace Go.Proofs.Ytdhofaiogbpjpaa
open Go.ChangeShapes Go.WideShapes Go.ChangeAt Go.RowKit Go.Joins
namespace Me
open Tre
/-! ### Rows of rows -/
def isR2 (A : Option Addr) (R : List (List Int)) (W : World) : Prop := R ≠ [] → ∃ b off, A = some ⟨b, off, none⟩ ∧ b < W.heap.size ∧ ∀ k r, R[k]? = some r → ∃ B c, W.cell? ⟨b, off + k, none⟩ = some (.slice B r.length c) ∧ isZ B r W
theorem isR2.keep {A : Option Addr} {R : List (List Int)} {w w' : World} (h : isR2 A R w) (hb : Below w.heap.size w w') : isR2 A R w' := fun hz => by
  obtain ⟨b, off, e, hl, hr⟩ := h hz
  refine ⟨b, off, e, Nat.lt_of_lt_of_le hl hb.size, fun k r hk => ?_⟩
  obtain ⟨B, c, h1, h2⟩ := hr k r hk
  exact ⟨B, c, (hb.cell (p := ⟨b, off + k, none⟩) hl).trans h1, h2.keep hb⟩
theorem isR2.at {A : Option Addr} {R : List (List Int)} {W : World} (h : isR2 A R W) {k : Nat} {r : List Int} (hk : R[k]? = some r) : ∃ b off B c, A = some ⟨b, off, none⟩ ∧ b < W.heap.size ∧ W.cell? ⟨b, off + k, none⟩ = some (.slice B r.length c) ∧ isZ B r W := by
  obtain ⟨b, off, e, hl, hr⟩ := h (by rintro rfl; simp at hk)
  obtain ⟨B, c, h1, h2⟩ := hr k r hk
  exact ⟨b, off, B, c, e, hl, h1, h2⟩
def kRow : Knd (List Int) := ⟨1, fun r => [rowOf intK r], fun _ => rfl, by decide⟩
theorem iRow (ts : List Tr) (h : OfAll [.row intT] ts) : ∃ x, ts = kRow.enc x := by
  obtain ⟨t, us, rfl, h0, h⟩ := h.cons_inv
  obtain rfl := h.nil_inv
  obtain ⟨l, rfl⟩ := Of.row_inv (k := intK) rfl intI h0
  exact ⟨l, rfl⟩
theorem isZ_of_lies {W : World} {L : List Int} {A : Option Addr} {m cap : Nat} (h : Lies (fun _ => True) W (rowOf intK L) (.slice A m cap)) : isZ A L W := fun hne => by
  obtain ⟨b, off, e, -, hb, hel⟩ := h.elems hne
  refine ⟨b, off, e, hb, fun k x hk => ?_⟩
  obtain ⟨us, hus, hc, hl⟩ := hel k x hk
  obtain ⟨r0, us, rfl, h0, hl⟩ := LiesAll.cons_inv hl
  obtain rfl := h0.is_leaf
  have := hc 0 _ rfl
  rw [show off + k * intK.n + 0 = off + k by simp [intK]] at this
  exact this
theorem isR2_of_lies {W : World} {R : List (List Int)} {A : Option Addr} {m cap : Nat} (h : Lies (fun _ => True) W (rowOf kRow R) (.slice A m cap)) : isR2 A R W := fun hne => by
  obtain ⟨b, off, e, -, hb, hel⟩ := h.elems hne
  refine ⟨b, off, e, hb, fun k r hk => ?_⟩
  obtain ⟨us, hus, hc, hl⟩ := hel k r hk
  obtain ⟨r0, us, rfl, h0, hl⟩ := LiesAll.cons_inv hl
  obtain ⟨B, c, rfl⟩ := h0.rowOf_len
  have := hc 0 _ rfl
  rw [show off + k * kRow.n + 0 = off + k by simp [kRow]] at this
  exact ⟨B, c, this, isZ_of_lies h0⟩
theorem shape_rows : Tre.shape Try.prog 6 46 = some [.row [.row intT]] := by kernel_rfl
set_option maxRecDepth 100000 in
/-- What a slice of slices of numbers that came in gives. -/
theorem open_rows {H : Type} {enc : TypeId × Value → H} {W : World} {base : Nat} {v1 : Value} {d1 : DataW H} {p1 : List MemPlace} (hval : Value.okWide Try.prog W .any base 46 v1) (h1 : DataW.Trod enc Try.prog W 0 (fun _ => true) true 46 v1 d1 p1) :
    ∃ (A : Option Addr) (cap : Nat) (R : List (List Int)), v1 = .slice A R.length cap ∧ isR2 A R W ∧ R.length ≤ maxLen := by
  obtain ⟨a1, len, cap, rfl⟩ := okWide_slice Try.underlying46 hval
  obtain ⟨ts, hl, ho⟩ := open_tree shape_rows h1
  obtain ⟨t, us, rfl, h0, ho⟩ := ho.cons_inv
  obtain rfl := ho.nil_inv
  obtain ⟨R, rfl⟩ := Of.row_inv (k := kRow) rfl iRow h0
  obtain ⟨hm, -⟩ := Of.row_each (k := kRow) rfl h0
  obtain ⟨v, us, hv, hlies, -⟩ := LiesAll.cons_inv hl
  have e : v = .slice a1 len cap := by
    simp [Value.cells] at hv
    exact hv.1.symm
  subst e
  obtain ⟨A', cap', e⟩ := hlies.rowOf_len
  simp only [Value.slice.injEq] at e
  obtain ⟨rfl, rfl, rfl⟩ := e
  exact ⟨_, _, R, rfl, isR2_of_lies hlies, hm⟩

/-! ### What an operation does -/
def ldB (L : List Rg) (f : Nat → BitVec 8) (part addr : Int) : BitVec 8 := if (trR L part addr).2 = 0 then f (trR L part addr).1.toNat else 0#8
theorem ldR_eq (L : List Rg) (f : Nat → BitVec 8) (part addr : Int) : ldR L f part addr = U8 (ldB L f part addr) := by
  unfold ldR ldB
  split <;> rfl
def actB (L : List Rg) (f : Nat → BitVec 8) (k : Nat) (part addr : Int) : BitVec 8 := if k = 0 then ldB L f part addr else 0#8
def actE (L : List Rg) (k : Nat) (part addr : Int) : Int := if k = 2 then clE L part else (trR L part addr).2
def actF (L : List Rg) (f : Nat → BitVec 8) (k : Nat) (part addr : Int) (v : BitVec 8) : Nat → BitVec 8 := if k = 0 then f else if k = 1 then stR L f part addr v else clR L f part
set_option maxRecDepth 100000 in
set_option maxHeartbeats 2000000 in
theorem act_any {lo g : Nat} {L : List Rg} {mem : Nat} {f : Nat → BitVec 8} (hv : Vld L mem) (k : Nat) (hk : k < 3) (part addr : Int) (v : BitVec 8) (w : World) (h : MemS lo g L mem f w) : Calls Try.prog 21 #[.pointer (some ⟨g, 0, none⟩), .int .i64 (k : Nat), .int .i64 part, .int .i64 addr, U8 v] w fun e w' => e = .returned (.tuple #[U8 (actB L f k part addr), .int .i64 (actE L k part addr)]) ∧ MemS lo g L mem (actF L f k part addr v) w' ∧ Mv g w w' := by
  have hk3 : k = 0 ∨ k = 1 ∨ k = 2 := by omega
  rcases hk3 with rfl | rfl | rfl
  · have HL := Lib.hid (load_any hv part addr w h)
    rw [ldR_eq] at HL
    have e1 : actB L f 0 part addr = ldB L f part addr := rfl
    have e2 : actE L 0 part addr = (trR L part addr).2 := rfl
    have e3 : actF L f 0 part addr v = f := rfl
    rw [e1, e2, e3]
    have Hm := Lib.hid h
    clear h e1 e2 e3
    generalize ldB L f part addr = y at *
    generalize (trR L part addr).2 = er at *
    simp only [U8] at *
    go_enter Try.func21, Try.ntmps21
    go_wp2_with fail
    (with_reducible refine (HL.out).mono ?_); rintro _ w1 ⟨rfl, hb⟩
    go_wp2_with fail
    go_ret2
    exact ⟨rfl, Hm.out.keep hb, Mv.of hb⟩
  · have HL := Lib.hid (store_any hv part addr v w h)
    have e1 : actB L f 1 part addr = 0#8 := rfl
    have e2 : actE L 1 part addr = (trR L part addr).2 := rfl
    have e3 : actF L f 1 part addr v = stR L f part addr v := rfl
    rw [e1, e2, e3]
    clear h e1 e2 e3
    generalize stR L f part addr v = y at *
    generalize (trR L part addr).2 = er at *
    simp only [U8] at *
    go_enter Try.func21, Try.ntmps21
    go_wp2_with fail
    (with_reducible refine (HL.out).mono ?_); rintro _ w1 ⟨rfl, hm, hmv⟩
    go_wp2_with fail
    go_ret2
    exact ⟨rfl, hm, hmv⟩
  · have HL := Lib.hid (clear_any hv part w h)
    have e1 : actB L f 2 part addr = 0#8 := rfl
    have e2 : actE L 2 part addr = clE L part := rfl
    have e3 : actF L f 2 part addr v = clR L f part := rfl
    rw [e1, e2, e3]
    clear h e1 e2 e3
    generalize clR L f part = y at *
    generalize clE L part = er at *
    simp only [U8] at *
    go_enter Try.func21, Try.ntmps21
    go_wp2_with fail
    (with_reducible refine (HL.out).mono ?_); rintro _ w1 ⟨rfl, hm, hmv⟩
    go_wp2_with fail
    go_ret2
    exact ⟨rfl, hm, hmv⟩
/-! ### Isolation -/
/-- Two memories agree on the bytes of a partition. -/
def Agr (ns : List Nat) (me : Nat) (f g : Nat → BitVec 8) : Prop := ∀ a, a < ns.getD me 0 → f (up8 (endA ns me) + a) = g (up8 (endA ns me) + a)
section
variable {ns : List Nat} {n : Nat} (hn6 : n ≤ 6) (hns : ∀ m ∈ ns, m ≤ 4096)
include hn6 hns
omit hn6 hns in
theorem tr_inv {i : Nat} (hi : i < n) {x : Int} (h : (trR (layA ns n) i x).2 = 0) : ∃ a, a < ns.getD i 0 ∧ x = (a : Nat) := by
  rw [trR_eq, (fd_yes (find_part hi)).1, (fd_yes (find_part hi)).2, if_pos rfl] at h
  by_cases hc : x < 0 ∨ (regA ns i).s ≤ x
  · rw [if_pos hc] at h
    cases h
  · have hs : (regA ns i).s = (ns.getD i 0 : Nat) := rfl
    rw [hs] at hc
    exact ⟨x.toNat, by omega, by omega⟩
omit hn6 hns in
/-- Where two partitions' addresses lie, they differ. -/
theorem apart2 {i me a b : Nat} (hne : i ≠ me) (ha : a < ns.getD i 0) (hb : b < ns.getD me 0) : up8 (endA ns i) + a ≠ up8 (endA ns me) + b := by
  have h1 := up8_le (endA ns i)
  have h2 := up8_le (endA ns me)
  rcases Nat.lt_or_gt_of_ne hne with h | h
  · have := endA_next ns i me h
    omega
  · have := endA_next ns me i h
    omega
theorem act_other {i me : Nat} (hi : i < n) (hne : i ≠ me) (f g : Nat → BitVec 8) (k : Nat) (x : Int) (v : BitVec 8) (h : Agr ns me f g) : Agr ns me (actF (layA ns n) f k i x v) g := fun b hb => by
  rw [← h b hb]
  unfold actF
  split
  · rfl
  · split
    · unfold stR
      split
      · rename_i ht
        obtain ⟨a, ha, rfl⟩ := tr_inv hi ht
        rw [lay_trans hn6 hns hi ha]
        have := apart2 hne ha hb
        show (if up8 (endA ns me) + b = ((up8 (endA ns i) + a : Nat) : Int).toNat then v else f (up8 (endA ns me) + b)) = _
        rw [if_neg (by rw [Int.toNat_natCast]; omega)]
      · rfl
    · rw [(lay_clear hi f).2]
      show (if _ then _ else _) = _
      rw [if_neg]
      intro hc
      have := apart2 hne (a := up8 (endA ns me) + b - up8 (endA ns i)) (b := b) (by omega) hb
      omega
theorem act_same {me : Nat} (hi : me < n) (f g : Nat → BitVec 8) (k : Nat) (x : Int) (v : BitVec 8) (h : Agr ns me f g) : actB (layA ns n) f k me x = actB (layA ns n) g k me x ∧ Agr ns me (actF (layA ns n) f k me x v) (actF (layA ns n) g k me x v) := by
  constructor
  · unfold actB ldB
    split
    · split
      · rename_i ht
        obtain ⟨a, ha, rfl⟩ := tr_inv hi ht
        rw [lay_trans hn6 hns hi ha]
        show f ((up8 (endA ns me) + a : Nat) : Int).toNat = g ((up8 (endA ns me) + a : Nat) : Int).toNat
        rw [Int.toNat_natCast]
        exact h a ha
      · rfl
    · rfl
  · intro b hb
    unfold actF
    split
    · exact h b hb
    · split
      · unfold stR
        split
        · show (if _ then _ else _) = (if _ then _ else _)
          split
          · rfl
          · exact h b hb
        · exact h b hb
      · rw [(lay_clear hi f).2, (lay_clear hi g).2]
        show (if _ then _ else _) = (if _ then _ else _)
        split
        · rfl
        · exact h b hb
end
end Me
end Go.Proofs.Ytdhofaiogbpjpaa
