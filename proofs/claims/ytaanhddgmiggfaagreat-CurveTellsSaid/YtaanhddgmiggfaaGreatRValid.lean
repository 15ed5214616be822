/- The reference's Valid at every curve. -/
import Derived.Test.YtaanhddgmiggfaaGreatRVal
import Derived.Test.YtaanhddgmiggfaaGreatRApp
namespace Go.Proofs.YtaanhddgmiggfaaGreat.Ref
open Go.RowKit Go.Joins Go.Shelf Go.Sort Num

theorem val_of_lt {c : List Bk} (h : c.length < 1) : valC c = false := by unfold valC; simp; omega
theorem val_of_gt {c : List Bk} (h : 32 < c.length) : valC c = false := by unfold valC; simp; omega
theorem val_all {c : List Bk} (h1 : ¬ c.length < 1) (h2 : ¬ 32 < c.length) : valC c = c.all Bk.ok := by unfold valC; rw [decide_eq_true (by omega), decide_eq_true (by omega)]; rfl

set_option maxRecDepth 100000 in
set_option maxHeartbeats 4000000 in
theorem valid_c (A : Option Addr) (cap : Nat) (c : List Bk) (hlen : c.length ≤ 1048576) (hbd : ∀ x ∈ c, x.bd64) (w : World) (hI : SlR w.heap.size w (.slice A c.length cap) c) :
    Calls Tryz.prog 17 #[.slice A c.length cap] w fun e w' => e = .returned (.bool (valC c)) ∧ Below w.heap.size w w' := by
  obtain ⟨A', cap', e, hrow⟩ := hI
  simp only [Value.slice.injEq, true_and] at e
  obtain ⟨rfl, rfl⟩ := e
  have HC : Hid (∀ (x : Bk), x.bd64 → ∀ W : World, _) := fun x h W => good_any x.bn x.bd W h.h1.1 h.h1.2 h.h2.1 h.h2.2
  have HR : Hid (∀ (x : Bk), x.bd64 → ∀ W : World, _) := fun x h W => good_any x.rn x.rd W h.h3.1 h.h3.2 h.h4.1 h.h4.2
  by_cases h1 : c.length < 1
  · rw [val_of_lt h1]
    clear hrow HC HR hbd
    have h1' : decide ((c.length : Int) < 1) = true := by simp; omega
    go_enter Tryz.func17, Tryz.ntmps17
    go_wp2_with fail
    go_ret
    exact ⟨rfl, Below.refl _ _⟩
  by_cases h2 : 32 < c.length
  · rw [val_of_gt h2]
    clear hrow HC HR hbd
    have h1' : decide ((c.length : Int) < 1) = false := by simp; omega
    go_enter Tryz.func17, Tryz.ntmps17
    go_wp2_with fail
    go_ret
    exact ⟨rfl, Below.refl _ _⟩
  rw [val_all h1 h2]
  obtain ⟨b, off, rfl, hb, hr⟩ := hrow (by intro h; subst h; simp at h1)
  have h1' : decide ((c.length : Int) < 1) = false := by simp; omega
  have h2' : ¬ (32 : Int) < c.length := by omega
  go_enter Tryz.func17, Tryz.ntmps17
  go_wp2_with fail
  go_loopw [3] (fun i wr => ∃ k : Nat, k ≤ c.length ∧ i = .int .i64 k ∧ (c.take k).all Bk.ok = true ∧ Below w.heap.size w wr)
    (fun i _ => c.length - (intOf i).toNat)
  case atStart => exact ⟨0, Nat.zero_le _, rfl, by simp, Below.refl _ _⟩
  case round =>
    obtain ⟨k, hk, rfl, hall, hBr⟩ := hrel
    by_cases hlt : k < c.length
    · have hx : c[k]? = some c[k] := List.getElem?_eq_getElem hlt
      obtain ⟨x, hxe⟩ : ∃ x, c[k] = x := ⟨_, rfl⟩
      rw [hxe] at hx
      have hts := take_succ' hx
      have hall2 : Hid ((c.take (k + 1)).all Bk.ok = x.ok) := by unfold Hid; rw [hts, List.all_append, hall]; simp
      have hmem : x ∈ c := List.mem_of_getElem? hx
      have hno : Hid (x.ok = false → c.all Bk.ok = false) := fun h => by rw [List.all_eq_false]; exact ⟨x, hmem, by simp [h]⟩
      have C1 := fun W => HC.out x (hbd x hmem) W
      have C2 := fun W => HR.out x (hbd x hmem) W
      have C1 := Lib.hid C1
      have C2 := Lib.hid C2
      obtain ⟨c0, c1, c2, c3⟩ := hr.below hBr hb k x hx
      have hwz := hBr.size
      have hbz : b < wr.heap.size := by omega
      clear hx hxe hts hall
      have hok : Hid (x.ok = (amtB x.bn x.bd && amtB x.rn x.rd)) := rfl
      generalize amtB x.bn x.bd = a1 at C1 hok
      generalize amtB x.rn x.rd = a2 at C2 hok
      cases a1
      · go_wp2_with fail
        refine (C1.out _).mono ?_; rintro e w1 ⟨rfl, hb1⟩
        have hB1 := Lib.hid (hBr.trans (hb1.mono hBr.size))
        clear hb1
        go_wp2
        go_ret
        exact ⟨ret_bool (hno.out hok.out).symm, hB1.out⟩
      · go_wp2_with fail
        refine (C1.out _).mono ?_; rintro e w1 ⟨rfl, hb1⟩
        have hB1 := hBr.trans (hb1.mono hBr.size)
        have d2 := (hb1.cell (p := ⟨b, off + k * 4 + 2, none⟩) hbz).trans c2
        have d3 := (hb1.cell (p := ⟨b, off + k * 4 + 3, none⟩) hbz).trans c3
        clear c0 c1 c2 c3 hb1
        go_wp2_with fail
        refine (C2.out _).mono ?_; rintro e w2 ⟨rfl, hb2⟩
        have hB2 : Below w.heap.size w w2 := hB1.trans (hb2.mono hB1.size)
        clear d2 d3 hb2
        cases a2
        · go_wp2
          go_ret
          exact ⟨ret_bool (hno.out hok.out).symm, hB2⟩
        · go_wp2
          go_roundw
          case rel => exact ⟨k + 1, by omega, by go_num, by rw [hall2.out]; exact hok.out, hB2⟩
          case measure => simp [intOf]; omega
    · obtain rfl : k = c.length := by omega
      rw [List.take_length] at hall
      go_wp2_with fail
      go_ret
      exact ⟨ret_bool hall.symm, hBr⟩

theorem valid_ok {A : Option Addr} {cap : Nat} {c : List Buck} (hl1 : 1 ≤ c.length) (hl2 : c.length ≤ 32) {W : World} (hI : Sl W.heap.size W (.slice A c.length cap) c) :
    Calls Tryz.prog 17 #[.slice A c.length cap] W fun e w' => e = .returned (.bool true) ∧ Below W.heap.size W w' := by
  have := valid_c A cap (c.map Buck.raw) (by simp; omega) (fun x hx => by obtain ⟨y, -, rfl⟩ := List.mem_map.1 hx; exact raw_bd y) W (by simpa using slR_iff.2 hI)
  rw [val_true hl1 hl2] at this
  simpa using this
theorem good_ok {t : Rat} (ht : Fit t) (ht0 : 0 ≤ t) (W : World) :
    Calls Tryz.prog 59 #[.agg #[.int .i64 t.num, .int .i64 t.den]] W fun e w' => e = .returned (.bool true) ∧ Below W.heap.size W w' := by
  have htb := fit_bd ht
  have := good_any t.num t.den W (by omega) (by omega) (by omega) (by omega)
  rwa [amt_true ht ht0] at this
end Go.Proofs.YtaanhddgmiggfaaGreat.Ref
