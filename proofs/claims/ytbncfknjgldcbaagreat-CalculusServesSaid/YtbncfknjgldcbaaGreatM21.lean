/- Merged texts: CRFr. -/
import Derived.Test.YtbncfknjgldcbaaGreatM8
/- The reference's Frames. -/
namespace Go.Proofs.YtbncfknjgldcbaaGreat
open Go.RowKit Go.Joins Go.Shelf Go.Sort Num

/-- The time ahead of frame k. -/
def prevT (l : List Sn) (k : Nat) : Int := match k with | 0 => 0 | k + 1 => (l.getD k ⟨0, 0, 0⟩).t
theorem prevT_succ {l : List Sn} {k : Nat} {x : Sn} (h : l[k]? = some x) : prevT l (k + 1) = x.t := by
  show (l.getD k ⟨0, 0, 0⟩).t = x.t
  rw [List.getD_eq_getElem?_getD, h]; rfl

set_option maxRecDepth 100000 in
set_option maxHeartbeats 4000000 in
theorem rframes_any (A : Option Addr) (cap : Nat) (l : List Sn) (hbd : l.length ≤ 4000 → ∀ x ∈ l, x.bd64) (w : World) (hI : isS A l w) :
    Calls Tryz.prog 89 #[.slice A l.length cap] w fun e w' => e = .returned (.bool (frB l)) ∧ Below w.heap.size w w' := by
  by_cases hlen : 4000 < l.length
  · have h1 : frB l = false := by unfold frB; rw [decide_eq_false (by omega)]; rfl
    rw [h1]
    have z : (4000 : Int) < l.length := by omega
    go_enter Tryz.func89, Tryz.ntmps89
    go_wp2
    go_ret
    exact ⟨rfl, Below.refl _ _⟩
  have h1 : Hid (frB l = frOk 0 l) := by unfold Hid frB; rw [decide_eq_true (by omega)]; rfl
  have hbd := hbd (by omega)
  have z : decide ((4000 : Int) < l.length) = false := by simp; omega
  have hI' := Lib.hid hI
  have hbd' := Lib.hid hbd
  clear hI hbd
  go_enter Tryz.func89, Tryz.ntmps89
  go_wp2_with fail
  go_loopw [3] (fun i wr => ∃ (k : Nat), k ≤ l.length ∧ i = .int .i64 ↑k ∧ Hid (frOk 0 l = frOk (prevT l k) (l.drop k)) ∧ Hid (0 ≤ prevT l k) ∧ Below w.heap.size w wr)
    (fun i _ => l.length - (intOf i).toNat)
  case atStart => exact ⟨0, Nat.zero_le _, rfl, rfl, Int.le_refl 0, Below.refl _ _⟩
  case round =>
    obtain ⟨k, hk, rfl, hok, hp0, hB⟩ := hrel
    have hkz : (k : Int) ≤ 4000 := by omega
    by_cases hlt : k < l.length
    · have hx : l[k]? = some (l[k]'hlt) := List.getElem?_eq_getElem hlt
      obtain ⟨x, hxe⟩ : ∃ x, l[k]'hlt = x := ⟨_, rfl⟩
      rw [hxe] at hx
      have hxb := hbd'.out x (List.mem_of_getElem? hx)
      obtain ⟨⟨i1, i2⟩, -, ⟨i3, i4⟩⟩ := hxb
      obtain ⟨b, off, rfl, hb, hr⟩ := hI'.out (by intro h; subst h; simp at hlt)
      have hr2 := hr.below hB hb
      obtain ⟨c0, c1, c2⟩ := hr2 k x hx
      have hbz := Nat.lt_of_lt_of_le hb hB.size
      have hstep : Hid (frOk 0 l = (x.ok (prevT l k) && frOk x.t (l.drop (k + 1)))) := by unfold Hid; rw [hok.out, drop_at hx]; rfl
      have hB' := Lib.hid hB
      have hno : Hid (x.ok (prevT l k) = false → frB l = false) := fun h => by rw [h1.out, hstep.out, h]; rfl
      have hpn : Hid (prevT l (k + 1) = x.t) := prevT_succ hx
      have hyes : Hid (x.ok (prevT l k) = true → frOk 0 l = frOk (prevT l (k + 1)) (l.drop (k + 1))) := fun h => by rw [hstep.out, h, hpn.out]; rfl
      have hd : decide ((k : Int) < l.length) = true := by simp; omega
      obtain ⟨T, hT⟩ : ∃ T, x.t = T := ⟨_, rfl⟩
      obtain ⟨S, hS⟩ : ∃ S, x.s = S := ⟨_, rfl⟩
      obtain ⟨P, hP⟩ : ∃ P, prevT l k = P := ⟨_, rfl⟩
      have hokq : Hid (x.ok P = (decide (P ≤ T) && (decide (T ≤ 1073741824) && (decide (1 ≤ S) && decide (S ≤ 72))))) := by unfold Hid Sn.ok; rw [hT, hS]
      rw [hT] at i1 i2 c0 hpn
      rw [hS] at i3 i4 c2
      rw [hP] at hno hyes hp0
      have p0 := hp0.out
      by_cases a1 : T < 0
      · have hf := Lib.hid (hno.out (by rw [hokq.out]; simp; omega))
        have z1 : decide (T < 0) = true := by simp; omega
        clear hstep hno hyes hokq hpn hok
        go_wp2_with fail
        go_quiet (fail)
        have hBq := Lib.hid (below_drewN hB'.out nq)
        go_wp2_with fail
        go_ret
        exact ⟨by rw [hf.out]; rfl, hBq.out⟩
      by_cases a2 : 1073741824 < T
      · have hf := Lib.hid (hno.out (by rw [hokq.out]; simp; omega))
        have z1 : decide (T < 0) = false := by simp; omega
        have z2 : decide (1073741824 < T) = true := by simp; omega
        clear hstep hno hyes hokq hpn hok
        go_wp2_with fail
        go_quiet (fail)
        have hBq := Lib.hid (below_drewN hB'.out nq)
        go_wp2_with fail
        go_ret
        exact ⟨by rw [hf.out]; rfl, hBq.out⟩
      by_cases a3 : S < 1
      · have hf := Lib.hid (hno.out (by rw [hokq.out]; simp; omega))
        have z1 : decide (T < 0) = false := by simp; omega
        have z2 : decide (1073741824 < T) = false := by simp; omega
        have z3 : decide (S < 1) = true := by simp; omega
        clear hstep hno hyes hokq hpn hok
        go_wp2_with fail
        go_quiet (fail)
        have hBq := Lib.hid (below_drewN hB'.out nq)
        go_wp2_with fail
        go_ret
        exact ⟨by rw [hf.out]; rfl, hBq.out⟩
      by_cases a4 : 72 < S
      · have hf := Lib.hid (hno.out (by rw [hokq.out]; simp; omega))
        have z1 : decide (T < 0) = false := by simp; omega
        have z2 : decide (1073741824 < T) = false := by simp; omega
        have z3 : decide (S < 1) = false := by simp; omega
        have z4 : decide (72 < S) = true := by simp; omega
        clear hstep hno hyes hokq hpn hok
        go_wp2_with fail
        go_quiet (fail)
        have hBq := Lib.hid (below_drewN hB'.out nq)
        go_wp2_with fail
        go_ret
        exact ⟨by rw [hf.out]; rfl, hBq.out⟩
      by_cases hk0 : k = 0
      · subst hk0
        have hP0 : P = 0 := by rw [← hP]; rfl
        have hf := Lib.hid (hyes.out (by rw [hokq.out]; simp; omega))
        have hn := Lib.hid (show 0 ≤ prevT l (0 + 1) by rw [hpn.out]; omega)
        simp only [Nat.zero_mul, Nat.add_zero] at c0 c1 c2
        have z1 : decide (T < 0) = false := by simp; omega
        have z2 : decide (1073741824 < T) = false := by simp; omega
        have z3 : decide (S < 1) = false := by simp; omega
        have z4 : decide (72 < S) = false := by simp; omega
        clear hstep hno hyes hokq hpn hok
        go_wp2_with fail
        go_quiet (fail)
        have hBq := Lib.hid (below_drewN hB'.out nq)
        go_wp2_with fail
        go_roundw
        case rel => exact ⟨0 + 1, by omega, by go_num, hf.out, hn.out, hBq.out⟩
        case measure => simp [intOf]; omega
      · obtain ⟨m, rfl⟩ : ∃ m, k = m + 1 := ⟨k - 1, by omega⟩
        have hy : l[m]? = some (l[m]'(by omega)) := List.getElem?_eq_getElem _
        obtain ⟨y, hye⟩ : ∃ y, l[m]'(by omega) = y := ⟨_, rfl⟩
        rw [hye] at hy
        obtain ⟨d0, d1, d2⟩ := hr2 m y hy
        have hyb := hbd'.out y (List.mem_of_getElem? hy)
        obtain ⟨⟨j1, j2⟩, -, -⟩ := hyb
        have hPy : P = y.t := by
          rw [← hP]
          exact prevT_succ hy
        rw [← hPy] at d0 j1 j2
        have hk1 : decide ((0 : Int) < ((m + 1 : Nat) : Int)) = true := decide_eq_true (by omega)
        have hml : m < l.length := by omega
        have hm2 : decide ((m : Int) < l.length) = true := decide_eq_true (by omega)
        clear hy hye hPy hk0
        have z1 : decide (T < 0) = false := by simp; omega
        have z2 : decide (1073741824 < T) = false := by simp; omega
        have z3 : decide (S < 1) = false := by simp; omega
        have z4 : decide (72 < S) = false := by simp; omega
        by_cases a5 : T < P
        · have hf := Lib.hid (hno.out (by rw [hokq.out]; simp; omega))
          have z5 : decide (T < P) = true := by simp; omega
          clear hstep hno hyes hokq hpn hok
          go_wp2_with fail
          go_quiet (fail)
          have hBq := Lib.hid (below_drewN hB'.out nq)
          go_wp2_with fail
          go_ret
          exact ⟨by rw [hf.out]; rfl, hBq.out⟩
        · have hf := Lib.hid (hyes.out (by rw [hokq.out]; simp; omega))
          have hn := Lib.hid (show 0 ≤ prevT l (m + 1 + 1) by rw [hpn.out]; omega)
          have z5 : decide (T < P) = false := by simp; omega
          clear hstep hno hyes hokq hpn hok
          go_wp2_with fail
          go_quiet (fail)
          have hBq := Lib.hid (below_drewN hB'.out nq)
          go_wp2_with fail
          go_roundw
          case rel => exact ⟨m + 1 + 1, by omega, by go_num, hf.out, hn.out, hBq.out⟩
          case measure => simp [intOf]; omega
    · obtain rfl : k = l.length := by omega
      have hf : Hid (frB l = true) := by unfold Hid; rw [h1.out, hok.out, List.drop_length]; rfl
      clear hok
      go_wp2
      go_ret
      exact ⟨by rw [hf.out]; rfl, hB⟩
end Go.Proofs.YtbncfknjgldcbaaGreat
