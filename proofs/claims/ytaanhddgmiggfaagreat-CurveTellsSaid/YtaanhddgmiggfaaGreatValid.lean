/- curve.Valid at every curve. -/
import Derived.Test.YtaanhddgmiggfaaGreatNormal
namespace Go.Proofs.YtaanhddgmiggfaaGreat
open Go.RowKit Go.Joins Go.Shelf Go.Sort Num

/-- A bucket as it may come in. -/
structure Bk where
  bn : Int
  bd : Int
  rn : Int
  rd : Int
deriving DecidableEq, Inhabited
abbrev I64 (n : Int) : Prop := -9223372036854775808 ≤ n ∧ n ≤ 9223372036854775807
structure Bk.bd64 (x : Bk) : Prop where
  h1 : I64 x.bn
  h2 : I64 x.bd
  h3 : I64 x.rn
  h4 : I64 x.rd
def Bk.ok (x : Bk) : Bool := amtB x.bn x.bd && amtB x.rn x.rd
def valC (c : List Bk) : Bool := decide (1 ≤ c.length) && decide (c.length ≤ 32) && c.all Bk.ok
def Buck.raw (x : Buck) : Bk := ⟨x.b.num, x.b.den, x.r.num, x.r.den⟩
/-- Block b holds the buckets c from off on. -/
def RawRow (W : World) (b off : Nat) (c : List Bk) : Prop :=
  ∀ j x, c[j]? = some x → W.cell? ⟨b, off + j * 4, none⟩ = some (.int .i64 x.bn) ∧ W.cell? ⟨b, off + j * 4 + 1, none⟩ = some (.int .i64 x.bd) ∧ W.cell? ⟨b, off + j * 4 + 2, none⟩ = some (.int .i64 x.rn) ∧ W.cell? ⟨b, off + j * 4 + 3, none⟩ = some (.int .i64 x.rd)
theorem RawRow.below {B : Nat} {W W' : World} {b off : Nat} {c : List Bk} (h : RawRow W b off c) (hk : Below B W W') (hb : b < B) : RawRow W' b off c := fun j x hx => by
  obtain ⟨h0, h1, h2, h3⟩ := h j x hx
  exact ⟨(hk.cell (p := ⟨b, _, none⟩) hb).trans h0, (hk.cell (p := ⟨b, _, none⟩) hb).trans h1, (hk.cell (p := ⟨b, _, none⟩) hb).trans h2, (hk.cell (p := ⟨b, _, none⟩) hb).trans h3⟩
theorem raw_row {W : World} {b off : Nat} {c : List Buck} : RawRow W b off (c.map Buck.raw) ↔ Row W b off c := by
  constructor
  · intro h j x hx
    exact h j x.raw (by rw [List.getElem?_map, hx]; rfl)
  · intro h j x hx
    rw [List.getElem?_map] at hx
    obtain ⟨y, hy, rfl⟩ := Option.map_eq_some_iff.1 hx
    exact h j y hy
/-- The slice value sv holds the buckets c, in a block below n₀. -/
def SlR (n₀ : Nat) (W : World) (sv : Value) (c : List Bk) : Prop :=
  ∃ A cap, sv = .slice A c.length cap ∧ (c ≠ [] → ∃ b off, A = some ⟨b, off, none⟩ ∧ b < n₀ ∧ RawRow W b off c)
theorem SlR.below {B n₀ : Nat} {W W' : World} {sv : Value} {c : List Bk} (h : SlR n₀ W sv c) (hk : Below B W W') (hn : n₀ ≤ B) : SlR n₀ W' sv c := by
  obtain ⟨A, cap, e, h⟩ := h
  exact ⟨A, cap, e, fun hc => by obtain ⟨b, off, e1, e2, e3⟩ := h hc; exact ⟨b, off, e1, e2, e3.below hk (by omega)⟩⟩
theorem SlR.more {n₀ n₁ : Nat} {W : World} {sv : Value} {c : List Bk} (h : SlR n₀ W sv c) (hn : n₀ ≤ n₁) : SlR n₁ W sv c := by
  obtain ⟨A, cap, e, h⟩ := h
  exact ⟨A, cap, e, fun hc => by obtain ⟨b, off, e1, e2, e3⟩ := h hc; exact ⟨b, off, e1, by omega, e3⟩⟩
theorem Sl.more {n₀ n₁ : Nat} {W : World} {sv : Value} {c : List Buck} (h : Sl n₀ W sv c) (hn : n₀ ≤ n₁) : Sl n₁ W sv c := by
  obtain ⟨A, cap, e, h⟩ := h
  exact ⟨A, cap, e, fun hc => by obtain ⟨b, off, e1, e2, e3⟩ := h hc; exact ⟨b, off, e1, by omega, e3⟩⟩
theorem slR_iff {n₀ : Nat} {W : World} {sv : Value} {c : List Buck} : SlR n₀ W sv (c.map Buck.raw) ↔ Sl n₀ W sv c := by
  unfold SlR Sl
  simp only [List.length_map, ne_eq, List.map_eq_nil_iff, raw_row]
theorem Sl.of_own {W : World} {base : Nat} {v : Value} {c : List Buck} (h : W.ownsRow base 80 4 v c.length (cellsOf c)) (hn : v = .slice none 0 0 ↔ c = []) : Sl W.heap.size W v c := by
  by_cases hc : c = []
  · subst hc
    exact ⟨none, 0, hn.2 rfl, fun h => absurd rfl h⟩
  · obtain ⟨g, cap, rfl, hb, hlt⟩ := h.form (List.length_pos_iff.2 hc)
    exact ⟨_, cap, rfl, fun _ => ⟨g, 0, rfl, hlt, row_of_holdsK (holdsK_of_own h)⟩⟩
theorem raw_ok (x : Buck) : x.raw.ok = true := by
  have h1 := fit_vld x.hb
  have h2 := fit_vld x.hr
  have h3 := Rat.num_nonneg.2 x.pb
  have h4 := Rat.num_nonneg.2 x.pr
  simp [Bk.ok, Buck.raw, amtB, h1, h2, h3, h4]
theorem raw_bd (x : Buck) : x.raw.bd64 := by
  have h1 := fit_bd x.hb
  have h2 := fit_bd x.hr
  constructor <;> (simp only [Buck.raw, I64]; omega)

set_option maxRecDepth 100000 in
set_option maxHeartbeats 4000000 in
theorem valid_c (A : Option Addr) (cap : Nat) (c : List Bk) (hlen : c.length ≤ 1048576) (hbd : ∀ x ∈ c, x.bd64) (w : World) (hI : SlR w.heap.size w (.slice A c.length cap) c) :
    Calls Tryz.prog 16 #[.slice A c.length cap] w fun e w' => e = .returned (.bool (valC c)) ∧ Below w.heap.size w w' := by
  obtain ⟨A', cap', e, hrow⟩ := hI
  simp only [Value.slice.injEq, true_and] at e
  obtain ⟨rfl, rfl⟩ := e
  have HC : Hid (∀ (x : Bk), x.bd64 → ∀ W : World, _) := fun x h W => amount_any x.bn x.bd W h.h1.1 h.h1.2 h.h2.1 h.h2.2
  have HR : Hid (∀ (x : Bk), x.bd64 → ∀ W : World, _) := fun x h W => amount_any x.rn x.rd W h.h3.1 h.h3.2 h.h4.1 h.h4.2
  by_cases h1 : c.length < 1
  · rw [show valC c = false by unfold valC; simp; omega]
    clear hrow HC HR hbd
    have h1' : decide ((c.length : Int) < 1) = true := by simp; omega
    go_enter Tryz.func16, Tryz.ntmps16
    go_wp2_with fail
    go_ret
    exact ⟨rfl, Below.refl _ _⟩
  by_cases h2 : 32 < c.length
  · rw [show valC c = false by unfold valC; simp; omega]
    clear hrow HC HR hbd
    have h1' : decide ((c.length : Int) < 1) = false := by simp; omega
    go_enter Tryz.func16, Tryz.ntmps16
    go_wp2_with fail
    go_ret
    exact ⟨rfl, Below.refl _ _⟩
  have hv : valC c = c.all Bk.ok := by unfold valC; rw [decide_eq_true (by omega), decide_eq_true (by omega)]; rfl
  rw [hv]
  clear hv
  obtain ⟨b, off, rfl, hb, hr⟩ := hrow (by intro h; subst h; simp at h1)
  have h1' : decide ((c.length : Int) < 1) = false := by simp; omega
  have h2' : ¬ (32 : Int) < c.length := by omega
  go_enter Tryz.func16, Tryz.ntmps16
  go_wp2_with fail
  go_loopw [15] (fun i wr => ∃ k : Nat, k ≤ c.length ∧ i = .int .i64 k ∧ (c.take k).all Bk.ok = true ∧ Below w.heap.size w wr)
    (fun i _ => c.length - (intOf i).toNat)
  case atStart => exact ⟨0, Nat.zero_le _, rfl, by simp, Below.refl _ _⟩
  case round =>
    obtain ⟨k, hk, rfl, hall, hBr⟩ := hrel
    by_cases hlt : k < c.length
    · have hx : c[k]? = some c[k] := List.getElem?_eq_getElem hlt
      obtain ⟨x, hxe⟩ : ∃ x, c[k] = x := ⟨_, rfl⟩
      rw [hxe] at hx
      have hts := take_succ' hx
      have hall2 : Hid ((c.take (k + 1)).all Bk.ok = x.ok) := by unfold Hid; rw [hts, List.all_append, hall]; simp
      have hmem : x ∈ c := List.mem_of_getElem? hx
      have hno : Hid (x.ok = false → c.all Bk.ok = false) := fun h => by rw [List.all_eq_false]; exact ⟨x, hmem, by simp [h]⟩
      have C1 := fun W => HC.out x (hbd x hmem) W
      have C2 := fun W => HR.out x (hbd x hmem) W
      have C1 := Lib.hid C1
      have C2 := Lib.hid C2
      obtain ⟨c0, c1, c2, c3⟩ := hr.below hBr hb k x hx
      have hwz := hBr.size
      clear hx hxe hts hall
      have hok : Hid (x.ok = (amtB x.bn x.bd && amtB x.rn x.rd)) := rfl
      generalize amtB x.bn x.bd = a1 at C1 hok
      generalize amtB x.rn x.rd = a2 at C2 hok
      cases a1
      · go_wp2_with fail
        refine (C1.out _).mono ?_; rintro e w1 ⟨rfl, hb1⟩
        have hB1 := below_allocs1 hBr hBr.size hb1.b
        go_wp2
        go_ret
        exact ⟨ret_bool (hno.out hok.out).symm, hB1⟩
      · go_wp2_with fail
        refine (C1.out _).mono ?_; rintro e w1 ⟨rfl, hb1⟩
        have hB1 := below_allocs1 hBr hBr.size hb1.b
        obtain ⟨hc, hf⟩ := bcell hb1.b
        have hz := hb1.b.size
        simp only [World.size_alloc] at hc hf hz
        go_wp2_with fail
        refine (C2.out _).mono ?_; rintro e w2 ⟨rfl, hb2⟩
        have hB2 : Below w.heap.size w w2 := hB1.trans (hb2.b.mono hB1.size)
        cases a2
        · go_wp2
          go_ret
          exact ⟨ret_bool (hno.out hok.out).symm, hB2⟩
        · go_wp2
          go_roundw
          case rel => exact ⟨k + 1, by omega, by go_num, by rw [hall2.out]; exact hok.out, hB2⟩
          case measure => simp [intOf]; omega
    · obtain rfl : k = c.length := by omega
      rw [List.take_length] at hall
      go_wp2_with fail
      go_ret
      exact ⟨ret_bool hall.symm, hBr⟩
end Go.Proofs.YtaanhddgmiggfaaGreat
