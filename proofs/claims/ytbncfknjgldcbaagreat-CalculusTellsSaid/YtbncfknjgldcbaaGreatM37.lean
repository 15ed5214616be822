/- Merged texts: TPair. -/
import Derived.Test.YtbncfknjgldcbaaGreatM33
import Derived.Test.YtbncfknjgldcbaaGreatM34
import Derived.Test.YtbncfknjgldcbaaGreatM35
import Derived.Test.YtbncfknjgldcbaaGreatM36
import Derived.Test.YtbncfknjgldcbaaGreatM23
/- Delay, Backlog, Chain and Valid of whatever arguments: the program and the reference answer the same. -/
namespace Go.Proofs.YtbncfknjgldcbaaGreat
open Go.RowKit Go.Joins Go.Shelf Go.Sort Num

theorem ok_buck4 {x : Bk} (h : x.ok = true) : ∃ y : Buck, y.raw = x := by
  unfold Bk.ok amtB at h
  simp only [Bool.and_eq_true, decide_eq_true_eq] at h
  obtain ⟨⟨h1, h2⟩, h3, h4⟩ := h
  obtain ⟨r, e1, e2, hr⟩ := r_of_vld h2
  obtain ⟨s, e3, e4, hs⟩ := r_of_vld h4
  refine ⟨⟨r, s, hr, hs, Rat.num_nonneg.1 (by omega), Rat.num_nonneg.1 (by omega)⟩, ?_⟩
  show (⟨r.num, (r.den : Int), s.num, (s.den : Int)⟩ : Bk) = x
  rw [e1, e2, e3, e4]
theorem ok_bucks4 : ∀ {c : List Bk}, (∀ x ∈ c, x.ok = true) → ∃ d : List Buck, c = d.map Buck.raw
  | [], _ => ⟨[], rfl⟩
  | x :: c, h => by
    obtain ⟨y, hy⟩ := ok_buck4 (h x List.mem_cons_self)
    obtain ⟨d, hd⟩ := ok_bucks4 (c := c) fun z hz => h z (List.mem_cons_of_mem _ hz)
    exact ⟨y :: d, by rw [hd, ← hy]; rfl⟩
theorem val_bucks4 {c : List Bk} (h : valC c = true) : ∃ d : List Buck, c = d.map Buck.raw ∧ 1 ≤ d.length ∧ d.length ≤ 32 := by
  unfold valC at h
  simp only [Bool.and_eq_true, decide_eq_true_eq, List.all_eq_true] at h
  obtain ⟨d, rfl⟩ := ok_bucks4 h.2
  rw [List.length_map] at h
  exact ⟨d, rfl, h.1.1, h.1.2⟩
theorem val_curves : ∀ {cs : List (List Bk)}, cs.all valC = true → ∃ ds : List (List Buck), cs = ds.map (List.map Buck.raw) ∧ ∀ d ∈ ds, 1 ≤ d.length ∧ d.length ≤ 32
  | [], _ => ⟨[], rfl, by simp⟩
  | c :: cs, h => by
    rw [List.all_cons, Bool.and_eq_true] at h
    obtain ⟨d, rfl, h1⟩ := val_bucks4 h.1
    obtain ⟨ds, rfl, h2⟩ := val_curves h.2
    exact ⟨d :: ds, rfl, fun x hx => by
      rcases List.mem_cons.1 hx with rfl | hx
      · exact h1
      · exact h2 x hx⟩
theorem isLR.good {A : Option Addr} {ds : List (List Buck)} {W : World} (h : isLR A (ds.map (List.map Buck.raw)) W) (hd : ∀ d ∈ ds, 1 ≤ d.length ∧ d.length ≤ 32) : isL A ds W := by
  obtain ⟨-, vs, h1, h2, h3⟩ := h
  refine ⟨hd, vs, by simpa using h1, h2, fun j v c k1 k2 => ?_⟩
  obtain ⟨B, cap, e, hi⟩ := h3 j v (c.map Buck.raw) k1 (by rw [List.getElem?_map, k2]; rfl)
  rw [List.length_map] at e hi
  exact ⟨B, cap, e, slR_iff.1 hi⟩
theorem srv_rat {rn rd ln ld : Int} (h : srvB rn rd ln ld = true) : ∃ r L : Rat, (Fit r ∧ 0 < r ∧ Fit L ∧ 0 ≤ L) ∧ r.num = rn ∧ (r.den : Int) = rd ∧ L.num = ln ∧ (L.den : Int) = ld := by
  unfold srvB at h
  simp only [Bool.and_eq_true, decide_eq_true_eq] at h
  obtain ⟨⟨h1, h2⟩, h3, h4⟩ := h
  obtain ⟨r, e1, e2, hr⟩ := r_of_vld h1
  obtain ⟨L, e3, e4, hL⟩ := r_of_vld h3
  refine ⟨r, L, ⟨hr, ?_, hL, Rat.num_nonneg.1 (by omega)⟩, e1, e2, e3, e4⟩
  have h0 : 0 ≤ r := Rat.num_nonneg.1 (by omega)
  rcases Rat.le_iff_lt_or_eq.1 h0 with h | h
  · exact h
  · rw [← h] at e1; rw [← e1] at h2; exact absurd h2 (by decide)

theorem good_or (A : Option Addr) (cs : List (List Bk)) (rn rd ln ld : Int) (w : World) (hI : isLR A cs w) : (∃ (ds : List (List Buck)) (r L : Rat), ds.length ≤ 32 ∧ cs.length = ds.length ∧ (Fit r ∧ 0 < r ∧ Fit L ∧ 0 ≤ L) ∧ (r.num = rn ∧ (r.den : Int) = rd ∧ L.num = ln ∧ (L.den : Int) = ld) ∧ isL A ds w) ∨ (cs.length ≤ 32 → srvB rn rd ln ld = true → cs.all valC = true → False) := by
  by_cases k : cs.length ≤ 32 ∧ srvB rn rd ln ld = true ∧ cs.all valC = true
  · obtain ⟨k1, k2, k3⟩ := k
    obtain ⟨r, L, k4, k5⟩ := srv_rat k2
    obtain ⟨ds, rfl, k6⟩ := val_curves k3
    rw [List.length_map] at k1
    exact .inl ⟨ds, r, L, k1, by rw [List.length_map], k4, k5, hI.good k6⟩
  · exact .inr fun k1 k2 k3 => k ⟨k1, k2, k3⟩
section
variable (A : Option Addr) (cap : Nat) (cs : List (List Bk)) (rn rd ln ld : Int) (h1 : I64 rn) (h2 : I64 rd) (h3 : I64 ln) (h4 : I64 ld) (w : World) (hI : isLR A cs w)
include h1 h2 h3 h4 hI
theorem delay_pair : ∃ a b e : Int, (∀ W : World, Below w.heap.size w W → Calls Tryz.prog 26 #[.slice A cs.length cap, .agg #[.int .i64 rn, .int .i64 rd, .int .i64 ln, .int .i64 ld]] W fun r w' => r = .returned (.tuple #[.agg #[.int .i64 a, .int .i64 b], .int .i64 e]) ∧ Below W.heap.size W w') ∧
    (∀ W : World, Below w.heap.size w W → Calls Tryz.prog 27 #[.slice A cs.length cap, .agg #[.int .i64 rn, .int .i64 rd, .int .i64 ln, .int .i64 ld]] W fun r w' => r = .returned (.tuple #[.agg #[.int .i64 a, .int .i64 b], .int .i64 e]) ∧ Below W.heap.size W w') := by
  rcases good_or A cs rn rd ln ld w hI with ⟨ds, r, L, k1, k2, ⟨k3, k4, k5, k6⟩, ⟨rfl, rfl, rfl, rfl⟩, hi⟩ | k
  · refine ⟨(delayV ds r L).1, (delayV ds r L).2.1, (delayV ds r L).2.2, fun W hW => ?_, fun W hW => ?_⟩
    · rw [k2]; exact delay_ok A cap ds k1 r L k3 k4 k5 k6 W (cl_isL A ds w W hi hW)
    · rw [k2]; exact rdelay_top A cap ds k1 r L k3 k4 k5 k6 W (cl_isL A ds w W hi hW)
  · exact ⟨0, 0, 2, fun W hW => delay_bad A cap cs rn rd ln ld h1 h2 h3 h4 W (fun _ => cl_isLR A cs w W hI hW) k, fun W hW => rdelay_bad A cap cs rn rd ln ld h1 h2 h3 h4 W (cl_isLR A cs w W hI hW) k⟩
theorem back_pair : ∃ a b e : Int, (∀ W : World, Below w.heap.size w W → Calls Tryz.prog 28 #[.slice A cs.length cap, .agg #[.int .i64 rn, .int .i64 rd, .int .i64 ln, .int .i64 ld]] W fun r w' => r = .returned (.tuple #[.agg #[.int .i64 a, .int .i64 b], .int .i64 e]) ∧ Below W.heap.size W w') ∧
    (∀ W : World, Below w.heap.size w W → Calls Tryz.prog 29 #[.slice A cs.length cap, .agg #[.int .i64 rn, .int .i64 rd, .int .i64 ln, .int .i64 ld]] W fun r w' => r = .returned (.tuple #[.agg #[.int .i64 a, .int .i64 b], .int .i64 e]) ∧ Below W.heap.size W w') := by
  rcases good_or A cs rn rd ln ld w hI with ⟨ds, r, L, k1, k2, ⟨k3, k4, k5, k6⟩, ⟨rfl, rfl, rfl, rfl⟩, hi⟩ | k
  · refine ⟨(backV ds r L k5).1, (backV ds r L k5).2.1, (backV ds r L k5).2.2, fun W hW => ?_, fun W hW => ?_⟩
    · rw [k2]; exact back_ok A cap ds k1 r L k3 k4 k5 k6 W (cl_isL A ds w W hi hW)
    · rw [k2]; exact rback_top A cap ds k1 r L k3 k4 k5 k6 W (cl_isL A ds w W hi hW)
  · exact ⟨0, 0, 2, fun W hW => back_bad A cap cs rn rd ln ld h1 h2 h3 h4 W (fun _ => cl_isLR A cs w W hI hW) k, fun W hW => rback_bad A cap cs rn rd ln ld h1 h2 h3 h4 W (cl_isLR A cs w W hI hW) k⟩
end
theorem chain_pair (an ad bn bd cn cd dn dd : Int) (h1 : I64 an) (h2 : I64 ad) (h3 : I64 bn) (h4 : I64 bd) (h5 : I64 cn) (h6 : I64 cd) (h7 : I64 dn) (h8 : I64 dd) : ∃ a b c d e : Int, (∀ W : World, Calls Tryz.prog 30 #[.agg #[.int .i64 an, .int .i64 ad, .int .i64 bn, .int .i64 bd], .agg #[.int .i64 cn, .int .i64 cd, .int .i64 dn, .int .i64 dd]] W fun r w' => r = .returned (.tuple #[.agg #[.int .i64 a, .int .i64 b, .int .i64 c, .int .i64 d], .int .i64 e]) ∧ Below W.heap.size W w') ∧
    (∀ W : World, Calls Tryz.prog 31 #[.agg #[.int .i64 an, .int .i64 ad, .int .i64 bn, .int .i64 bd], .agg #[.int .i64 cn, .int .i64 cd, .int .i64 dn, .int .i64 dd]] W fun r w' => r = .returned (.tuple #[.agg #[.int .i64 a, .int .i64 b, .int .i64 c, .int .i64 d], .int .i64 e]) ∧ Below W.heap.size W w') := by
  cases k : (srvB an ad bn bd && srvB cn cd dn dd) with
  | false => exact ⟨0, 0, 0, 0, 2, fun W => chain_bad an ad bn bd cn cd dn dd h1 h2 h3 h4 h5 h6 h7 h8 W k, fun W => rchain_bad an ad bn bd cn cd dn dd h1 h2 h3 h4 h5 h6 h7 h8 W k⟩
  | true =>
    rw [Bool.and_eq_true] at k
    obtain ⟨r, L, ⟨a1, a2, a3, a4⟩, rfl, rfl, rfl, rfl⟩ := srv_rat k.1
    obtain ⟨s, M, ⟨b1, b2, b3, b4⟩, rfl, rfl, rfl, rfl⟩ := srv_rat k.2
    have HP := fun W : World => chain_ok r L s M a1 a2 a3 a4 b1 b2 b3 b4 W
    have HR := fun W : World => rchain_ok r L s M a1 a2 a3 a4 b1 b2 b3 b4 W
    unfold chainV at HP HR
    by_cases hf : Fit (L + M)
    · simp only [if_pos hf] at HP HR
      exact ⟨_, _, _, _, _, HP, HR⟩
    · simp only [if_neg hf] at HP HR
      exact ⟨_, _, _, _, _, HP, HR⟩
end Go.Proofs.YtbncfknjgldcbaaGreat
