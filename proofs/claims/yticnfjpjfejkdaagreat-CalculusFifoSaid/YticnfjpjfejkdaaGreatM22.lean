/- Merged texts: CSns, CFifo. -/
import Derived.Test.YticnfjpjfejkdaaGreatM19
import Derived.Test.YticnfjpjfejkdaaGreatM21
/- A row of frames of a call's own reads as a list of frames. -/
namespace Go.Proofs.YticnfjpjfejkdaaGreat
open Go.RowKit Go.Joins Go.Shelf Go.Sort Num

theorem flat_sns (c : List Sn) : ∀ (j i : Nat) (x : Sn), c[j]? = some x → i < 3 → (snsOf c)[j * 3 + i]? = x.cells[i]? := by
  induction c with
  | nil => intro j i x h; simp at h
  | cons y c ih =>
    intro j i x h hi
    have e : snsOf (y :: c) = y.cells ++ snsOf c := rfl
    rw [e]
    cases j with
    | zero =>
      simp only [List.getElem?_cons_zero, Option.some.injEq] at h
      subst h
      rw [List.getElem?_append_left (by simp [Sn.cells]; omega)]
      simp
    | succ j =>
      rw [List.getElem?_append_right (by simp [Sn.cells]; omega), ← ih j i x (by simpa using h) hi]
      congr 1
      simp [Sn.cells]; omega
theorem own_sns {w : World} {base g cap : Nat} {c : List Sn} (h : w.ownsRow base 85 3 (.slice (some ⟨g, 0, none⟩) c.length cap) c.length (snsOf c)) : RowS w g 0 c := fun j x hx => by
  have hj : j < c.length := (List.getElem?_eq_some_iff.1 hx).1
  have f := fun i (hi : i < 3) => (h.cellAt (j * 3 + i) (by omega)).trans (flat_sns c j i x hx hi)
  rw [Nat.zero_add]
  exact ⟨f 0 (by decide), f 1 (by decide), f 2 (by decide)⟩
theorem own_isS {base : Nat} {W : World} {v : Value} {n : Nat} {c : List Sn} (h : W.ownsRow base 85 3 v n (snsOf c)) (hn : c.length = n) : ∃ A cap, v = .slice A c.length cap ∧ isS A c W := by
  subst hn
  rcases h.2 with ⟨rfl, h0⟩ | ⟨g, cap, cur, rfl, hb, hg, _⟩
  · rw [h0]
    exact ⟨none, 0, rfl, fun h => absurd (List.eq_nil_of_length_eq_zero h0) h⟩
  · exact ⟨_, cap, rfl, fun _ => ⟨g, 0, rfl, (Array.getElem?_eq_some_iff.1 hg).1, own_sns h⟩⟩
end Go.Proofs.YticnfjpjfejkdaaGreat
/- CalculusFifo returns true. -/
namespace Go.Proofs.YticnfjpjfejkdaaGreat
open Go.RowKit Go.Joins Go.Shelf Go.Sort Num

theorem flow_v {ss ws : List Int} {vl gap : Int} {n : Nat} {x : Sn} (h : x ∈ flowL ss ws vl gap n) : x.v = vl := by
  unfold flowL at h
  obtain ⟨k, -, rfl⟩ := List.mem_map.1 h
  rfl
theorem end_bd {slow delay : Int} (hs : 0 ≤ slow ∧ slow ≤ 16) (hd : 0 ≤ delay ∧ delay ≤ 1000) {l : List Sn} (hok : frOk 0 l = true) : ∀ (k : Nat), 0 ≤ endL slow delay 0 (l.take k) ∧ endL slow delay 0 (l.take k) ≤ 1073742824 + 1152 * k
  | 0 => by simp [endL]
  | k + 1 => by
    have ih := end_bd hs hd hok k
    cases hx : l[k]? with
    | none =>
      rw [List.take_of_length_le (by have := List.getElem?_eq_none_iff.1 hx; omega)]
      rw [List.take_of_length_le (by have := List.getElem?_eq_none_iff.1 hx; omega)] at ih
      omega
    | some f =>
      obtain ⟨a, b, c, d⟩ := frOk_mem hok (Int.le_refl 0) f (List.mem_of_getElem? hx)
      rw [take_succ' hx, endL_snoc]
      obtain ⟨m0, m1⟩ := mul_bd (a := f.s) (b := slow) (A := 72) (B := 16) (by omega) d hs.1 hs.2
      omega
namespace Fifo
set_option maxRecDepth 100000 in
set_option maxHeartbeats 8000000 in
theorem walk (A B : Option Addr) (ca cb : Nat) (ss ws : List Int) (x y : Int) (hx : 0 ≤ x ∧ x ≤ 255) (hy : 0 ≤ y ∧ y ≤ 255) (hs : ∀ z ∈ ss, 0 ≤ z ∧ z ≤ 255) (hw : ∀ z ∈ ws, 0 ≤ z ∧ z ≤ 255) (h1 : ss.length ≤ ca) (h2 : ca ≤ 9223372036854775807) (h3 : ws.length ≤ 9223372036854775807) (w : World) (hA : isU A ss w) (hB : isU B ws w) :
    Calls Tryz.prog 9 #[.slice A ss.length ca, .slice B ws.length cb, .int .u8 x, .int .u8 y] w fun e w' => e = .returned (.bool true) ∧ Below w.heap.size w w' := by
  have HW : Hid (∀ W : World, _) := fun W => Aw3.walk W
  have HF := flow_any A B ca cb ss ws 0 0 hs hw h1 h2 h3 (by decide) (by decide) w hA hB
  obtain ⟨n, hn⟩ : ∃ n, min ss.length 12 = n := ⟨_, rfl⟩
  rw [hn] at HF
  have hn12 : n ≤ 12 := by omega
  have hlen := flow_len ss ws 0 0 n
  have hok : frOk 0 (flowL ss ws 0 0 n) = true := by
    have := flow_ok (ss := ss) hs hw (vl := 0) (gap := 0) (by decide) (by decide) n 0 0 (by simp [flowT]) (by omega)
    rw [← List.range_eq_range'] at this
    exact this
  have hbd : ∀ x ∈ flowL ss ws 0 0 n, x.bd64 := fun z hz => by
    obtain ⟨a, b, c, d⟩ := frOk_mem hok (Int.le_refl 0) z hz
    have e := flow_v hz
    constructor
    · show -9223372036854775808 ≤ z.t ∧ z.t ≤ 9223372036854775807; omega
    · rw [e]; decide
    · show -9223372036854775808 ≤ z.s ∧ z.s ≤ 9223372036854775807; omega
  generalize flowL ss ws 0 0 n = l at HF hlen hok hbd
  obtain ⟨sl, hsl⟩ : ∃ sl, 1 + x % 16 = sl := ⟨_, rfl⟩
  have s0 : 1 ≤ sl := by omega
  have s1 : sl ≤ 16 := by omega
  have HS : Hid (∀ (A1 : Option Addr) (cap1 : Nat) (W : World), isS A1 l W → Calls Tryz.prog 40 #[.slice A1 n cap1, .int .i64 sl, .int .i64 y] W fun e w' => ∃ A2 cap2, e = .returned (.tuple #[.slice A2 n cap2, .int .i64 0]) ∧ isN A2 (serveL sl y 0 l) w' ∧ Below W.heap.size W w') := fun A1 cap1 W h => by
    have := serve_any A1 cap1 l (fun _ => hbd) sl y (by constructor <;> omega) (by constructor <;> omega) W h
    rw [hlen] at this
    refine this.mono fun e w' ⟨p, _, q⟩ => ?_
    obtain ⟨A2, c2, e1, e2⟩ := p ⟨frB_ok (by omega) hok, by omega, by omega⟩
    rw [hlen] at e1
    exact ⟨A2, c2, e1, e2, q⟩
  have hx16 : x % 16 + 1 = sl := by omega
  replace HF := Lib.hid HF
  clear hA hB hs hw h1 h2 h3 hn hbd
  go_enter Tryz.func9, Tryz.ntmps9
  go_wp2_with fail
  (with_reducible refine HF.out.mono ?_); rintro e w1 ⟨v, rfl, hown, hb1⟩
  obtain ⟨A1, cap1, rfl, hS⟩ := own_isS hown hlen
  rw [hlen]
  clear hown HF
  go_wp2_with fail
  have HSx := Lib.hid (HS.out A1 cap1 w1 hS)
  (with_reducible refine HSx.out.mono ?_); rintro e w2 ⟨A2, cap2, rfl, hN, hb2⟩
  have hS2 := cl_isS A1 l w1 w2 hS hb2
  have hB2 := hb1.trans (hb2.mono hb1.size)
  have HS2 := Lib.hid hS2
  have HN2 := Lib.hid hN
  have HB2 := Lib.hid hB2
  clear hS hN hS2 hB2 hb1 hb2 HSx HS
  go_wp2_with fail
  go_loopw [44] (fun i wr => ∃ k : Nat, k ≤ n ∧ i = .int .i64 ↑k ∧ Below w2.heap.size w2 wr) (fun i _ => n - (intOf i).toNat)
  case atStart => exact ⟨0, Nat.zero_le _, rfl, Below.refl _ _⟩
  case round =>
    obtain ⟨k, hk, rfl, hBw⟩ := hrel
    by_cases hlt : k < n
    · have hf : l[k]? = some (l[k]'(by omega)) := List.getElem?_eq_getElem (by omega)
      obtain ⟨f, hfe⟩ : ∃ f, l[k]'(by omega) = f := ⟨_, rfl⟩
      rw [hfe] at hf
      have hne : l ≠ [] := by intro e; rw [e] at hf; simp at hf
      obtain ⟨b, off, rfl, hbl, hr⟩ := cl_isS A1 l w2 wr HS2.out hBw hne
      obtain ⟨c0, c1, c2⟩ := hr k f hf
      have hg := serve_get sl y (e := 0) hf
      have hsn : serveL sl y 0 l ≠ [] := by intro e; rw [e] at hg; simp at hg
      obtain ⟨g, go, rfl, hgl, hq⟩ := cl_isN A2 _ w2 wr HN2.out hBw hsn
      have d0 := hq k _ hg
      obtain ⟨f0, f1, f2, f3⟩ := frOk_mem hok (Int.le_refl 0) f (List.mem_of_getElem? hf)
      obtain ⟨m0, m1⟩ := mul_bd (a := f.s) (b := sl) (A := 72) (B := 16) (by omega) f3 (by omega) s1
      obtain ⟨e0, e1⟩ := end_bd (slow := sl) (delay := y) ⟨by omega, s1⟩ ⟨hy.1, by omega⟩ hok k
      obtain ⟨E, hE⟩ : ∃ E, endL sl y 0 (l.take k) = E := ⟨_, rfl⟩
      obtain ⟨q, hqe⟩ : ∃ q, f.s * sl = q := ⟨_, rfl⟩
      obtain ⟨M, hM⟩ : ∃ M, max E (f.t + y) = M := ⟨_, rfl⟩
      rw [hE, hM, hqe] at d0
      rw [hE] at e0 e1
      rw [hqe] at m0 m1
      have hsub : M + q - q = M := by omega
      have hd1 : decide (M < f.t + y) = false := by simp; omega
      have hBw' := Lib.hid hBw
      have hbz := hBw.size
      have hkz : ((k : Nat) : Int) ≤ 12 := by omega
      have hE0 : k = 0 → E = 0 := by rintro rfl; rw [← hE]; simp [endL]
      have hM0 : 0 ≤ M := by omega
      have hM1 : M ≤ 1073757000 := by omega
      have hcase : k = 0 ∨ (0 < k ∧ E ≤ f.t + y) ∨ (0 < k ∧ f.t + y < E) := by omega
      have hprev : 0 < k → wr.cell? ⟨g, go + (k - 1), none⟩ = some (.int .i64 E) := fun h => by
        obtain ⟨j, rfl⟩ : ∃ j, k = j + 1 := ⟨k - 1, by omega⟩
        have hj : l[j]? = some (l[j]'(by omega)) := List.getElem?_eq_getElem (by omega)
        have := hq j _ (end_get sl y (e := 0) hj)
        rw [hE] at this
        exact this
      clear hf hfe hne hr hg hsn hq hE HS2 HN2 hBw hok
      rcases hcase with rfl | ⟨hk0, hle⟩ | ⟨hk0, hgt⟩
      · have hE1 := hE0 rfl
        have hMT : M = f.t + y := by omega
        have hd2 : decide (f.t + y < M) = false := by simp; omega
        simp only [Nat.zero_mul, Nat.add_zero] at c0 c1 c2 d0
        clear hprev hE0 hM
        go_wp2_with fail
        (try (go_quiet (fail)))
        go_wp2_with fail
        go_roundw
        case rel => exact ⟨1, by omega, by go_num, below_drewN (hBw'.out.alloc hbz _) _⟩
        case measure => simp [intOf]; omega
      · have hp := hprev hk0
        have hd2 : decide (f.t + y < M) = false := by simp; omega
        have hd3 : decide (M < E) = false := by simp; omega
        have hd4 : decide ((0 : Int) < k) = true := by simp; omega
        have hj1 : ((k - 1 : Nat) : Int) = (k : Int) - 1 := by omega
        clear hprev hE0 hM
        go_wp2_with fail
        (try (go_quiet (fail)))
        go_wp2_with fail
        go_roundw
        case rel => exact ⟨k + 1, by omega, by go_num, below_drewN (hBw'.out.alloc hbz _) _⟩
        case measure => simp [intOf]; omega
      · have hp := hprev hk0
        obtain rfl : M = E := by omega
        have hd2 : decide (f.t + y < M) = true := by simp; omega
        have hd4 : decide ((0 : Int) < k) = true := by simp; omega
        have hd5 : ((k : Int) == 0) = false := by simp; omega
        have hj1 : ((k - 1 : Nat) : Int) = (k : Int) - 1 := by omega
        clear hprev hE0 hM
        go_wp2_with fail
        (try (go_quiet (fail)))
        go_wp2_with fail
        go_roundw
        case rel => exact ⟨k + 1, by omega, by go_num, below_drewN (hBw'.out.alloc hbz _) _⟩
        case measure => simp [intOf]; omega
    · obtain rfl : k = n := by omega
      go_wp2_with fail
      (with_reducible refine (HW.out _).mono ?_); rintro e w5 ⟨rfl, hb5⟩
      have hF := Lib.hid (HB2.out.trans ((hBw.trans (hb5.mono hBw.size)).mono HB2.out.size))
      go_wp2_with fail
      go_ret
      exact ⟨rfl, hF.out⟩
end Fifo
end Go.Proofs.YticnfjpjfejkdaaGreat
