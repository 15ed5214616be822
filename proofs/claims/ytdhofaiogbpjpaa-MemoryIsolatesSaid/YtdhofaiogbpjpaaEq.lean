/- Regions compared; SameRegions. -/
import Derived.Test.YtdhofaiogbpjpaaSzv
namespace Go.Proofs.Ytdhofaiogbpjpaa
open Go.RowKit Go.Joins
namespace Me
theorem eqR_run (x y : Rg) (W : World) : Sem.run Try.prog (binOp .eql 45 (rgV x) (rgV y)) W = .ok (.bool (decide (x = y))) W := by
  obtain ⟨a1, a2, a3⟩ := x
  obtain ⟨b1, b2, b3⟩ := y
  simp only [rgV, Rg.mk.injEq]
  by_cases h1 : a1 = b1
  · subst h1
    by_cases h2 : a2 = b2
    · subst h2
      by_cases h3 : a3 = b3
      · subst h3; go_simp
      · have h3' : (a3 == b3) = false := by simpa using h3
        simp only [h3, and_false, decide_false]
        go_simp
    · have h2' : (a2 == b2) = false := by simpa using h2
      simp only [h2, and_false, false_and, decide_false]
      go_simp
  · have h1' : (a1 == b1) = false := by simpa using h1
    simp only [h1, false_and, decide_false]
    go_simp
theorem neqR_run (x y : Rg) (W : World) : Sem.run Try.prog (binOp .neq 45 (rgV x) (rgV y)) W = .ok (.bool (!decide (x = y))) W := by
  obtain ⟨a1, a2, a3⟩ := x
  obtain ⟨b1, b2, b3⟩ := y
  simp only [rgV, Rg.mk.injEq]
  by_cases h1 : a1 = b1
  · subst h1
    by_cases h2 : a2 = b2
    · subst h2
      by_cases h3 : a3 = b3
      · subst h3; go_simp
      · have h3' : (a3 == b3) = false := by simpa using h3
        simp only [h3, and_false, decide_false]
        go_simp
    · have h2' : (a2 == b2) = false := by simpa using h2
      simp only [h2, and_false, false_and, decide_false]
      go_simp
  · have h1' : (a1 == b1) = false := by simpa using h1
    simp only [h1, false_and, decide_false]
    go_simp
set_option maxRecDepth 100000 in
set_option maxHeartbeats 4000000 in
theorem sameR_any (A B : Option Addr) (ca cb n m : Nat) (a b : List Rg) (hla : a.length = n) (hlb : b.length = m) (hn : n ≤ 1000000000) (hm : m ≤ 1000000000) (w : World) (hA : isG A a w) (hB' : isG B b w) :
    Calls Try.prog 27 #[.slice A n ca, .slice B m cb] w fun e w' => e = .returned (.bool (decide (a = b))) ∧ Below w.heap.size w w' := by
  by_cases hl : n = m
  · subst hl
    have hnn : ((n : Int) != n) = false := by simp
    have HA := Lib.hid hA
    have HB := Lib.hid hB'
    have HLA := Lib.hid hla
    have HLB := Lib.hid hlb
    obtain ⟨d, hd⟩ : ∃ d, decide (a = b) = d := ⟨_, rfl⟩
    rw [hd]
    have Hd := Lib.hid hd
    clear hA hB' hla hlb hd hm
    go_enter Try.func27, Try.ntmps27
    go_wp2_with fail
    clear hnn
    go_loopw [5] (fun i wr => ∃ k : Nat, k ≤ n ∧ i = .int .i64 k ∧ Hid (a.take k = b.take k) ∧ Below w.heap.size w wr)
      (fun i _ => n - (intOf i).toNat)
    case atStart => exact ⟨0, Nat.zero_le _, rfl, rfl, Below.refl _ _⟩
    case round =>
      obtain ⟨k, hk, rfl, htk, hB⟩ := hrel
      by_cases hlt : k < n
      · have hx : a[k]? = some (a[k]'(by rw [HLA.out]; exact hlt)) := List.getElem?_eq_getElem _
        have hy : b[k]? = some (b[k]'(by rw [HLB.out]; exact hlt)) := List.getElem?_eq_getElem _
        obtain ⟨x, hxe⟩ : ∃ x, a[k]'(by rw [HLA.out]; exact hlt) = x := ⟨_, rfl⟩
        obtain ⟨y, hye⟩ : ∃ y, b[k]'(by rw [HLB.out]; exact hlt) = y := ⟨_, rfl⟩
        rw [hxe] at hx
        rw [hye] at hy
        obtain ⟨ga, oa, rfl, hla2, x0, x1, x2⟩ := isG.at (HA.out.keep hB) hx
        obtain ⟨gb, ob, rfl, hlb2, y0, y1, y2⟩ := isG.at (HB.out.keep hB) hy
        have hneq := fun W => neqR_run x y W
        have hdl : decide ((k : Int) < n) = true := by simp; omega
        have Htk : Hid (x = y → a.take (k + 1) = b.take (k + 1)) := fun e => by rw [take_snoc' hx, take_snoc' hy, htk.out, e]
        have Hne : Hid (x ≠ y → d = false) := fun e => by
          rw [← Hd.out]
          exact decide_eq_false fun h => by
            subst h
            rw [hx] at hy
            exact e (Option.some.inj hy)
        clear hx hy hxe hye htk
        simp only [rgV] at hneq
        by_cases hxy : x = y
        · have Ht := Lib.hid (Htk.out hxy)
          rw [decide_eq_true hxy] at hneq
          simp only [Bool.not_true] at hneq
          clear Htk Hne hxy
          go_wp2_with fail
          go_quiet (fail)
          rename_i nq
          replace hB := below_drewN hB nq
          clear x0 x1 x2 y0 y1 y2 hneq
          generalize wr.drewN nq = wq at hB ⊢
          go_wp2
          go_roundw
          case rel => exact ⟨k + 1, by omega, by go_num, Ht.out, hB⟩
          case measure => simp [intOf]; omega
        · have Ht := Lib.hid (Hne.out hxy)
          rw [decide_eq_false hxy] at hneq
          simp only [Bool.not_false] at hneq
          clear Htk Hne hxy
          go_wp2_with fail
          go_quiet (fail)
          rename_i nq
          replace hB := below_drewN hB nq
          clear x0 x1 x2 y0 y1 y2 hneq
          generalize wr.drewN nq = wq at hB ⊢
          go_wp2
          go_ret
          exact ⟨by rw [Ht.out]; rfl, hB⟩
      · obtain rfl : k = n := by omega
        have heq : Hid (d = true) := by
          unfold Hid
          rw [← Hd.out]
          have := htk.out
          rw [List.take_of_length_le (by rw [HLA.out]; exact Nat.le_refl _), List.take_of_length_le (by rw [HLB.out]; exact Nat.le_refl _)] at this
          exact decide_eq_true this
        go_wp2_with fail
        go_ret
        exact ⟨by rw [heq.out]; rfl, hB⟩
  · have hne : decide (a = b) = false := decide_eq_false fun h => hl (by rw [← hla, ← hlb, h])
    rw [hne]
    have hn1 : ((n : Int) != m) = true := by simp only [bne_iff_ne, ne_eq]; omega
    clear hne hA hB' hla hlb
    go_enter Try.func27, Try.ntmps27
    go_wp2_with fail
    go_ret
    exact ⟨rfl, Below.refl _ _⟩
end Me
end Go.Proofs.Ytdhofaiogbpjpaa
