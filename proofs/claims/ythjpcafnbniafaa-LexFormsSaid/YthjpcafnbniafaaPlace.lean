/- The contract of Place. -/
import Derived.Test.YthjpcafnbniafaaLexOk
namespace Go.Proofs.Ythjpcafnbniafaa
open Go.RowKit Go.Joins

theorem lex_any (l : List (BitVec 8)) (w : World) : Calls Try.prog 18 #[.string (bstr l)] w (LexPost l w) := by
  by_cases h : l.length ≤ 65536
  · exact lex_ok l h w
  · exact lex_long l (by omega) w

/-- The line and the column behind some bytes. -/
def plc (l : List (BitVec 8)) : Nat × Nat := l.foldl (fun p c => if c = 10#8 then (p.1 + 1, 1) else (p.1, p.2 + 1)) (1, 1)
theorem plc_snoc (l : List (BitVec 8)) (c : BitVec 8) : plc (l ++ [c]) = if c = 10#8 then ((plc l).1 + 1, 1) else ((plc l).1, (plc l).2 + 1) := by
  unfold plc; rw [List.foldl_append]; rfl
theorem plc_le (l : List (BitVec 8)) : 1 ≤ (plc l).1 ∧ (plc l).1 ≤ l.length + 1 ∧ 1 ≤ (plc l).2 ∧ (plc l).2 ≤ l.length + 1 := by
  suffices h : ∀ (n : Nat) (l : List (BitVec 8)), l.length = n → 1 ≤ (plc l).1 ∧ (plc l).1 ≤ l.length + 1 ∧ 1 ≤ (plc l).2 ∧ (plc l).2 ≤ l.length + 1 from h _ l rfl
  intro n
  induction n with
  | zero =>
    intro l h
    rw [List.eq_nil_of_length_eq_zero h]; decide
  | succ n ih =>
    intro l h
    have hne : l ≠ [] := by rintro rfl; cases h
    rw [← List.dropLast_concat_getLast hne, plc_snoc]
    have hl : l.dropLast.length = n := by simp; omega
    obtain ⟨h1, h2, h3, h4⟩ := ih _ hl
    rw [List.length_append, hl]
    rw [hl] at h2 h4
    split <;> simp <;> omega
/-- An offset within the source. -/
def posN (at' : Int) (n : Nat) : Nat := (min (max at' 0) n).toNat
theorem posN_le (a : Int) (n : Nat) : posN a n ≤ n := by unfold posN; omega

theorem max2 (a m : Int) (hm : m = max a 0) (t : Array TypeId) (ty : TypeId) (W : World) : (Builtin.max_ t ty #[.int .i64 a, .int .i64 0]).run Try.prog W = .ok (.int .i64 m) W := by
  simp only [Builtin.max_, Builtin.max2, List.foldlM, bind_pure]
  simp only [Sem.run_pure, Result.ok.injEq, Value.int.injEq, true_and, and_true]
  omega
theorem min2 (a b m : Int) (hm : m = min a b) (t : Array TypeId) (ty : TypeId) (W : World) : (Builtin.min_ t ty #[.int .i64 a, .int .i64 b]).run Try.prog W = .ok (.int .i64 m) W := by
  simp only [Builtin.min_, Builtin.min2, List.foldlM, bind_pure]
  simp only [Sem.run_pure, Result.ok.injEq, Value.int.injEq, true_and, and_true]
  omega

set_option maxRecDepth 100000 in
set_option maxHeartbeats 1000000 in
theorem place_any (l : List (BitVec 8)) (hl : l.length ≤ 4611686018427387904) (a : Int) (w : World) :
    Calls Try.prog 22 #[.string (bstr l), .int .i64 a] w fun e w' => e = .returned (.tuple #[.int .i64 (plc (l.take (posN a l.length))).1, .int .i64 (plc (l.take (posN a l.length))).2]) ∧ w' = w := by
  have hbs := bstr_size l
  have hpl := posN_le a l.length
  have hpe : (posN a l.length : Int) = min (max a 0) l.length := by unfold posN; omega
  obtain ⟨m, hm⟩ : ∃ m, m = max a 0 := ⟨_, rfl⟩
  rw [← hm] at hpe
  have hmax := fun W => max2 a m hm #[3, 3] 3 W
  have hmin := fun W => min2 m l.length _ hpe #[3, 3] 3 W
  have hex := bstr_extract l 0 (posN a l.length)
  rw [List.drop_zero, Nat.sub_zero] at hex
  have hb2 := bstr_size (l.take (posN a l.length))
  rw [List.length_take, Nat.min_eq_left hpl] at hb2
  generalize posN a l.length = p at *
  have HX : Hid (∀ (k : Nat) (z : BitVec 8), (l.take p)[k]? = some z → ∀ w, (Instr.index 9 (.string (bstr (l.take p))) (.int .i64 k)).run Try.prog w = .ok (U8 z) w) := fun k z h w => index_bstr (l.take p) k z h w
  have htl : (l.take p).length = p := by rw [List.length_take]; omega
  have htk : Hid (∀ k, k ≤ p → (l.take p).take k = l.take k) := fun k hk => by rw [List.take_take, Nat.min_eq_left hk]
  generalize bstr (l.take p) = T at hex hb2 HX
  have hpi : (p : Int) ≤ l.length := by omega
  clear hm hpe
  go_enter Try.func22, Try.ntmps22
  go_wp2_with fail
  clear hmax hmin hex
  go_loopw [4, 5, 17] (fun x y i wr => ∃ k : Nat, k ≤ p ∧ i = .int .i64 k ∧ x = .int .i64 (plc (l.take k)).1 ∧ y = .int .i64 (plc (l.take k)).2 ∧ wr = w)
    (fun _ _ i _ => p - (intOf i).toNat)
  case atStart => exact ⟨0, Nat.zero_le _, rfl, rfl, rfl, rfl⟩
  case round =>
    obtain ⟨k, hk, rfl, rfl, rfl, rfl⟩ := hrel
    obtain ⟨h1, h2, h3, h4⟩ := plc_le (l.take k)
    rw [List.length_take, Nat.min_eq_left (by omega)] at h2 h4
    by_cases hlt : k < p
    · have hgk : (l.take p)[k]? = some (l.take p)[k] := List.getElem?_eq_getElem (by omega)
      obtain ⟨z, hz⟩ : ∃ z, (l.take p)[k]'(by omega) = z := ⟨_, rfl⟩
      rw [hz] at hgk
      have hi := fun W => HX.out k z hgk W
      have hsn := take_snoc' hgk
      rw [htk.out _ (by omega), htk.out _ (by omega)] at hsn
      have hpc := plc_snoc (l.take k) z
      rw [← hsn] at hpc
      have HP := Lib.hid hpc
      have hq := beq_bv z 10#8
      rw [show (((10#8 : BitVec 8)).toNat : Int) = 10 from rfl] at hq
      clear hpc hsn hgk hz
      generalize (plc (l.take k)).1 = x at *
      generalize (plc (l.take k)).2 = y at *
      by_cases h10 : z = 10#8
      · rw [decide_eq_true h10] at hq
        have HP2 : Hid (plc (l.take (k + 1)) = (x + 1, 1)) := by unfold Hid; rw [HP.out, if_pos h10]
        clear HP h10
        go_wp2_with fail
        go_roundw
        case rel => exact ⟨k + 1, by omega, by go_num, by rw [HP2.out]; go_num, by rw [HP2.out]; rfl, by first | rfl | trivial⟩
        case measure => simp [intOf]; omega
      · rw [decide_eq_false h10] at hq
        have HP2 : Hid (plc (l.take (k + 1)) = (x, y + 1)) := by unfold Hid; rw [HP.out, if_neg h10]
        clear HP h10
        go_wp2_with fail
        go_roundw
        case rel => exact ⟨k + 1, by omega, by go_num, by rw [HP2.out], by rw [HP2.out]; go_num, by first | rfl | trivial⟩
        case measure => simp [intOf]; omega
    · obtain rfl : k = p := by omega
      obtain ⟨x, hx⟩ : ∃ x, (plc (l.take k)).1 = x := ⟨_, rfl⟩
      obtain ⟨y, hy⟩ : ∃ y, (plc (l.take k)).2 = y := ⟨_, rfl⟩
      rw [hx, hy]
      have H1 := Lib.hid hx
      have H2 := Lib.hid hy
      clear hx hy
      go_wp2_with fail
      go_ret2
      exact ⟨by rw [H1.out, H2.out]; rfl, rfl⟩
end Go.Proofs.Ythjpcafnbniafaa
