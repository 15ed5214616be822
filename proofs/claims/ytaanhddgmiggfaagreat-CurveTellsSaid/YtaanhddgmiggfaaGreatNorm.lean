/- curve.Norm and curve.Shift. -/
import Derived.Test.YtaanhddgmiggfaaGreatAt
namespace Go.Proofs.YtaanhddgmiggfaaGreat
open Go.RowKit Go.Joins Go.Shelf Go.Sort Num

/-- The slice v is the call's own and holds the buckets c; it is nil just where there is none. -/
def Own4 (base : Nat) (W : World) (v : Value) (c : List Buck) : Prop := W.ownsRow base 80 4 v c.length (cellsOf c) ∧ (v = .slice none 0 0 ↔ c = [])
theorem Own4.below {base : Nat} {W W' : World} {v : Value} {c : List Buck} (h : Own4 base W v c) (hb : Below W.heap.size W W') : Own4 base W' v c := ⟨own_below h.1 hb, h.2⟩
theorem Own4.base {base base' : Nat} {W : World} {v : Value} {c : List Buck} (h : Own4 base W v c) (hb : base' ≤ base) : Own4 base' W v c := ⟨own_base h.1 hb, h.2⟩
theorem Own4.sl {base : Nat} {W : World} {v : Value} {c : List Buck} (h : Own4 base W v c) : Sl W.heap.size W v c := Sl.of_own h.1 h.2
theorem Own4.form {base : Nat} {W : World} {v : Value} {c : List Buck} (h : Own4 base W v c) : ∃ A cap, v = .slice A c.length cap := by
  obtain ⟨A, cap, e, _⟩ := h.sl
  exact ⟨A, cap, e⟩

theorem val_true {c : List Buck} (hl1 : 1 ≤ c.length) (hl2 : c.length ≤ 32) : valC (c.map Buck.raw) = true := by
  unfold valC
  rw [List.length_map, decide_eq_true hl1, decide_eq_true hl2, Bool.true_and, Bool.true_and, List.all_eq_true]
  intro x hx
  obtain ⟨y, -, rfl⟩ := List.mem_map.1 hx
  exact raw_ok y
theorem valid_ok {A : Option Addr} {cap : Nat} {c : List Buck} (hl1 : 1 ≤ c.length) (hl2 : c.length ≤ 32) {W : World} (hI : Sl W.heap.size W (.slice A c.length cap) c) :
    Calls Tryz.prog 16 #[.slice A c.length cap] W fun e w' => e = .returned (.bool true) ∧ Below W.heap.size W w' := by
  have := valid_c A cap (c.map Buck.raw) (by simp; omega) (fun x hx => by obtain ⟨y, -, rfl⟩ := List.mem_map.1 hx; exact raw_bd y) W (by simpa using slR_iff.2 hI)
  rw [val_true hl1 hl2] at this
  simpa using this
theorem amt_true {t : Rat} (ht : Fit t) (ht0 : 0 ≤ t) : amtB t.num t.den = true := by unfold amtB; rw [fit_vld ht]; simp [Rat.num_nonneg.2 ht0]
theorem amount_ok {t : Rat} (ht : Fit t) (ht0 : 0 ≤ t) (W : World) :
    Calls Tryz.prog 57 #[.agg #[.int .i64 t.num, .int .i64 t.den]] W fun e w' => e = .returned (.bool true) ∧ Below W.heap.size W w' := by
  have htb := fit_bd ht
  have := amount_any t.num t.den W (by omega) (by omega) (by omega) (by omega)
  rw [amt_true ht ht0] at this
  exact this.mono fun _ _ ⟨h, k⟩ => ⟨h, k.b⟩

section
variable (A : Option Addr) (cap : Nat)
theorem norm_bad (c : List Bk) (hlen : c.length ≤ 1048576) (hbd : ∀ x ∈ c, x.bd64) (w : World) (hI : SlR w.heap.size w (.slice A c.length cap) c) (hbad : valC c = false) :
    Calls Tryz.prog 19 #[.slice A c.length cap] w fun e w' => e = .returned (.tuple #[.slice none 0 0, .int .i64 2]) ∧ Below w.heap.size w w' := by
  have HV := valid_c A cap c hlen hbd w hI
  rw [hbad] at HV
  clear hI hbd hbad
  go_enter Tryz.func19, Tryz.ntmps19
  go_wp2_with fail
  refine HV.mono ?_; rintro e w1 ⟨rfl, hb1⟩
  go_wp2
  go_ret2
  exact ⟨rfl, hb1⟩
theorem norm_ok (c : List Buck) (hl1 : 1 ≤ c.length) (hl2 : c.length ≤ 32) (w : World) (hI : Sl w.heap.size w (.slice A c.length cap) c) :
    Calls Tryz.prog 19 #[.slice A c.length cap] w fun e w' => ∃ v, e = .returned (.tuple #[v, .int .i64 0]) ∧ Own4 w.heap.size w' v (normL c) ∧ Below w.heap.size w w' := by
  have HV := valid_ok hl1 hl2 hI
  have HN : Hid (∀ W : World, Below w.heap.size w W → _) := fun W hb => normal_any A cap c (by omega) W ((hI.below hb (Nat.le_refl _)).more hb.size)
  clear hI
  go_enter Tryz.func19, Tryz.ntmps19
  go_wp2_with fail
  refine HV.mono ?_; rintro e w1 ⟨rfl, hb1⟩
  have hN := HN.out _ hb1
  clear HN HV
  go_wp2_with fail
  refine hN.mono ?_; rintro e w2 ⟨v, rfl, h1, h2, h3⟩
  have hO : Hid (Own4 w1.heap.size w2 v (normL c)) := ⟨h1, h2⟩
  clear h1 h2
  go_wp2
  go_ret2
  exact ⟨v, rfl, hO.out.base hb1.size, hb1.trans (h3.mono hb1.size)⟩
end

/-- A bucket out of two numbers. -/
def mkBuck (b r : Rat) : Buck := if h : (Fit b ∧ Fit r) ∧ (0 ≤ b ∧ 0 ≤ r) then ⟨b, r, h.1.1, h.1.2, h.2.1, h.2.2⟩ else default
theorem mk_b {b r : Rat} (h : (Fit b ∧ Fit r) ∧ (0 ≤ b ∧ 0 ≤ r)) : (mkBuck b r).b = b := by unfold mkBuck; rw [dif_pos h]
theorem mk_r {b r : Rat} (h : (Fit b ∧ Fit r) ∧ (0 ≤ b ∧ 0 ≤ r)) : (mkBuck b r).r = r := by unfold mkBuck; rw [dif_pos h]
def shiftB (t : Rat) (x : Buck) : Buck := mkBuck (valQ x t) x.r
theorem val_nonneg {x : Buck} {t : Rat} (ht : 0 ≤ t) : 0 ≤ valQ x t := Rat.add_nonneg x.pb (Rat.mul_nonneg x.pr ht)
theorem shift_h {x : Buck} {t : Rat} (ht : 0 ≤ t) (h : okv x t) : (Fit (valQ x t) ∧ Fit x.r) ∧ (0 ≤ valQ x t ∧ 0 ≤ x.r) := ⟨⟨h.2, x.hr⟩, val_nonneg ht, x.pr⟩
theorem shift_cells {x : Buck} {t : Rat} (ht : 0 ≤ t) (h : okv x t) : (shiftB t x).cells = [.int .i64 (valQ x t).num, .int .i64 (valQ x t).den, .int .i64 x.r.num, .int .i64 x.r.den] := by
  unfold shiftB Buck.cells
  rw [mk_b (shift_h ht h), mk_r (shift_h ht h)]
end Go.Proofs.YtaanhddgmiggfaaGreat
