/- The functions of package curve at valid curves, in the words of Kept. -/
import Derived.Test.YtaanhddgmiggfaaGreatKept
namespace Go.Proofs.YtaanhddgmiggfaaGreat
open Go.RowKit Go.Joins Go.Shelf Go.Sort Num

section
variable {A B : Option Addr} {ca cb : Nat} {a b n : List Buck} {w : World}
theorem own_is {base : Nat} {W : World} {v : Value} {c : List Buck} (h : Own4 base W v c) : ∃ A cap, v = .slice A c.length cap ∧ isC A cap c W := by
  obtain ⟨A, cap, rfl⟩ := h.form
  exact ⟨A, cap, rfl, isC.of_own h⟩
theorem norm_yes (k : Nat) (ha : isC A ca a w) (h1 : 1 ≤ a.length) (h2 : a.length ≤ 32) (hn : normL a = n) (hk : n.length = k) (l : Nat) (hl : a.length = l) :
    Calls Tryz.prog 19 #[.slice A l ca] w fun e w' => ∃ A' c', e = .returned (.tuple #[.slice A' k c', .int .i64 0]) ∧ isC A' c' n w' ∧ Below w.heap.size w w' := by
  subst hn hk hl
  exact (norm_ok A ca a h1 h2 w ha).mono fun e w' ⟨v, he, ho, hb⟩ => by
    obtain ⟨A', c', rfl, hi⟩ := own_is ho
    exact ⟨A', c', he, hi, hb⟩
theorem shift_yes (t : Rat) (k : Nat) (ha : isC A ca a w) (h1 : 1 ≤ a.length) (h2 : a.length ≤ 32) (ht : Fit t) (ht0 : 0 ≤ t) (hok : ∀ x ∈ a, okv x t) (hn : normL (a.map (shiftB t)) = n) (hk : n.length = k) (l : Nat) (hl : a.length = l) (tn td : Int) (htn : t.num = tn) (htd : (t.den : Int) = td) :
    Calls Tryz.prog 25 #[.slice A l ca, .agg #[.int .i64 tn, .int .i64 td]] w fun e w' => ∃ A' c', e = .returned (.tuple #[.slice A' k c', .int .i64 0]) ∧ isC A' c' n w' ∧ Below w.heap.size w w' := by
  subst hn hk hl htn htd
  exact (shift_ok A ca a t h1 h2 ht ht0 w ha).mono fun e w' ⟨h, _, hb⟩ => by
    obtain ⟨v, he, ho⟩ := h hok
    obtain ⟨A', c', rfl, hi⟩ := own_is ho
    exact ⟨A', c', he, hi, hb⟩
theorem sum_yes (k : Nat) (ha : isC A ca a w) (h1 : 1 ≤ a.length) (h2 : a.length ≤ 32) (hb : isC B cb b w) (h3 : 1 ≤ b.length) (h4 : b.length ≤ 32) {na nb : List Buck} (hna : normL a = na) (hnb : normL b = nb) (hm : na.length * nb.length ≤ 32) (hok : ∀ p ∈ pairsL na nb, oka p)
    (hn : normL ((pairsL na nb).map addB) = n) (hk : n.length = k) (l m : Nat) (hl : a.length = l) (hm' : b.length = m) :
    Calls Tryz.prog 21 #[.slice A l ca, .slice B m cb] w fun e w' => ∃ A' c', e = .returned (.tuple #[.slice A' k c', .int .i64 0]) ∧ isC A' c' n w' ∧ Below w.heap.size w w' := by
  subst hna hnb hn hk hl hm'
  exact (callsIn_wide.1 (sum_in A B ca cb a b h1 h2 h3 h4 w ha hb)).mono fun e w' ⟨_, _, h, hb⟩ => by
    obtain ⟨v, he, ho⟩ := h hm hok
    obtain ⟨A', c', rfl, hi⟩ := own_is ho
    exact ⟨A', c', he, hi, hb⟩
theorem min_yes (k : Nat) (ha : isC A ca a w) (h1 : 1 ≤ a.length) (h2 : a.length ≤ 32) (hb : isC B cb b w) (h3 : 1 ≤ b.length) (h4 : b.length ≤ 32) (hn : normL (a ++ b) = n) (hm : n.length ≤ 32) (hk : n.length = k) (l m : Nat) (hl : a.length = l) (hm' : b.length = m) :
    Calls Tryz.prog 23 #[.slice A l ca, .slice B m cb] w fun e w' => ∃ A' c', e = .returned (.tuple #[.slice A' k c', .int .i64 0]) ∧ isC A' c' n w' ∧ Below w.heap.size w w' := by
  subst hn hk hl hm'
  exact (min_ok A B ca cb a b h1 h2 h3 h4 w ha hb).mono fun e w' ⟨h, _, hb⟩ => by
    obtain ⟨v, he, ho⟩ := h hm
    obtain ⟨A', c', rfl, hi⟩ := own_is ho
    exact ⟨A', c', he, hi, hb⟩
theorem breaks_yes (k : Nat) (ha : isC A ca a w) (h1 : 1 ≤ a.length) (h2 : a.length ≤ 32) (hn : normL a = n) (hok : ∀ p ∈ twosL n, okm p) {p : List Pt} (hp : brkL n = p) (hk : p.length = k) (l : Nat) (hl : a.length = l) :
    Calls Tryz.prog 27 #[.slice A l ca] w fun e w' => ∃ A' c', e = .returned (.tuple #[.slice A' k c', .int .i64 0]) ∧ isP A' p w' ∧ Below w.heap.size w w' := by
  subst hn hp hk hl
  exact (callsIn_wide.1 (breaks_in A ca a h1 h2 w ha)).mono fun e w' ⟨_, h, hb⟩ => by
    obtain ⟨A', c', he, ho⟩ := h hok
    exact ⟨A', c', he, ho, hb⟩
theorem at_yes (t : Rat) (ha : isC A ca a w) (h1 : 1 ≤ a.length) (h2 : a.length ≤ 32) (ht : Fit t) (ht0 : 0 ≤ t) (hok : ∀ x ∈ a, okv x t) (l : Nat) (hl : a.length = l) (tn td vn vd : Int) (htn : t.num = tn) (htd : (t.den : Int) = td) (hvn : (minV a t).num = vn) (hvd : ((minV a t).den : Int) = vd) :
    Calls Tryz.prog 12 #[.slice A l ca, .agg #[.int .i64 tn, .int .i64 td]] w fun e w' => e = .returned (.tuple #[.agg #[.int .i64 vn, .int .i64 vd], .int .i64 0]) ∧ Below w.heap.size w w' := by
  subst hl htn htd hvn hvd
  have h := at_ok A ca a t h1 h2 ht ht0 w ha
  rw [show atV a t = ((minV a t).num, ((minV a t).den : Int), 0) from if_pos hok] at h
  exact h
theorem rate_yes (ha : isC A ca a w) (h1 : 1 ≤ a.length) (h2 : a.length ≤ 32) (l : Nat) (hl : a.length = l) (vn vd : Int) (hvn : (rateL a).num = vn) (hvd : ((rateL a).den : Int) = vd) :
    Calls Tryz.prog 14 #[.slice A l ca] w fun e w' => e = .returned (.tuple #[.agg #[.int .i64 vn, .int .i64 vd], .int .i64 0]) ∧ Below w.heap.size w w' := by
  subst hl hvn hvd
  exact rate_ok A ca a h1 h2 w ha
theorem same_yes (r : Bool) (ha : isC A ca a w) (hb : isC B cb b w) (h1 : a.length ≤ 1048576) (h2 : b.length ≤ 1048576) (hr : decide (a = b) = r) (l m : Nat) (hl : a.length = l) (hm' : b.length = m) :
    Calls Tryz.prog 56 #[.slice A l ca, .slice B m cb] w fun e w' => e = .returned (.bool r) ∧ Below w.heap.size w w' := by
  subst hl hm' hr
  exact same_any A B ca cb a b h1 h2 w ha hb
end
end Go.Proofs.YtaanhddgmiggfaaGreat
