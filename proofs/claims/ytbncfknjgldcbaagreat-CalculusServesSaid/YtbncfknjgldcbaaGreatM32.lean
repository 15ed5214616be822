/- Merged texts: CSns, CFifo. -/
import Derived.Test.YtbncfknjgldcbaaGreatM27
import Derived.Test.YtbncfknjgldcbaaGreatM31
/- A row of frames of a call's own reads as a list of frames. -/
namespace Go.Proofs.YtbncfknjgldcbaaGreat
open Go.RowKit Go.Joins Go.Shelf Go.Sort Num

theorem flat_sns (c : List Sn) : ∀ (j i : Nat) (x : Sn), c[j]? = some x → i < 3 → (snsOf c)[j * 3 + i]? = x.cells[i]? := by
  induction c with
  | nil => intro j i x h; simp at h
  | cons y c ih =>
    intro j i x h hi
    have e : snsOf (y :: c) = y.cells ++ snsOf c := rfl
    rw [e]
    cases j with
    | zero =>
      simp only [List.getElem?_cons_zero, Option.some.injEq] at h
      subst h
      rw [List.getElem?_append_left (by simp [Sn.cells]; omega)]
      simp
    | succ j =>
      rw [List.getElem?_append_right (by simp [Sn.cells]; omega), ← ih j i x (by simpa using h) hi]
      congr 1
      simp [Sn.cells]; omega
theorem own_sns {w : World} {base g cap : Nat} {c : List Sn} (h : w.ownsRow base 85 3 (.slice (some ⟨g, 0, none⟩) c.length cap) c.length (snsOf c)) : RowS w g 0 c := fun j x hx => by
  have hj : j < c.length := (List.getElem?_eq_some_iff.1 hx).1
  have f := fun i (hi : i < 3) => (h.cellAt (j * 3 + i) (by omega)).trans (flat_sns c j i x hx hi)
  rw [Nat.zero_add]
  exact ⟨f 0 (by decide), f 1 (by decide), f 2 (by decide)⟩
theorem own_isS {base : Nat} {W : World} {v : Value} {n : Nat} {c : List Sn} (h : W.ownsRow base 85 3 v n (snsOf c)) (hn : c.length = n) : ∃ A cap, v = .slice A c.length cap ∧ isS A c W := by
  subst hn
  rcases h.2 with ⟨rfl, h0⟩ | ⟨g, cap, cur, rfl, hb, hg, _⟩
  · rw [h0]
    exact ⟨none, 0, rfl, fun h => absurd (List.eq_nil_of_length_eq_zero h0) h⟩
  · exact ⟨_, cap, rfl, fun _ => ⟨g, 0, rfl, (Array.getElem?_eq_some_iff.1 hg).1, own_sns h⟩⟩
end Go.Proofs.YtbncfknjgldcbaaGreat
/- CalculusFifo returns true. -/
namespace Go.Proofs.YtbncfknjgldcbaaGreat
open Go.RowKit Go.Joins Go.Shelf Go.Sort Num

theorem flow_v {ss ws : List Int} {vl gap : Int} {n : Nat} {x : Sn} (h : x ∈ flowL ss ws vl gap n) : x.v = vl := by
  unfold flowL at h
  obtain ⟨k, -, rfl⟩ := List.mem_map.1 h
  rfl
theorem end_bd {slow delay : Int} (hs : 0 ≤ slow ∧ slow ≤ 16) (hd : 0 ≤ delay ∧ delay ≤ 1000) {l : List Sn} (hok : frOk 0 l = true) : ∀ (k : Nat), 0 ≤ endL slow delay 0 (l.take k) ∧ endL slow delay 0 (l.take k) ≤ 1073742824 + 1152 * k
  | 0 => by simp [endL]
  | k + 1 => by
    have ih := end_bd hs hd hok k
    cases hx : l[k]? with
    | none =>
      rw [List.take_of_length_le (by have := List.getElem?_eq_none_iff.1 hx; omega)]
      rw [List.take_of_length_le (by have := List.getElem?_eq_none_iff.1 hx; omega)] at ih
      omega
    | some f =>
      obtain ⟨a, b, c, d⟩ := frOk_mem hok (Int.le_refl 0) f (List.mem_of_getElem? hx)
      rw [take_succ' hx, endL_snoc]
      obtain ⟨m0, m1⟩ := mul_bd (a := f.s) (b := slow) (A := 72) (B := 16) (by omega) d hs.1 hs.2
      omega
end Go.Proofs.YtbncfknjgldcbaaGreat
