/- The program's answer and the reference's, for every curve and number, valid or not: they are the same. -/
import Derived.Test.YtaanhddgmiggfaaGreatRSum
import Derived.Test.YtaanhddgmiggfaaGreatRBreaks
import Derived.Test.YtaanhddgmiggfaaGreatRAt
import Derived.Test.YtaanhddgmiggfaaGreatRRate
import Derived.Test.YtaanhddgmiggfaaGreatSumOk
import Derived.Test.YtaanhddgmiggfaaGreatMin
import Derived.Test.YtaanhddgmiggfaaGreatYes
namespace Go.Proofs.YtaanhddgmiggfaaGreat.Ref
open Go.RowKit Go.Joins Go.Shelf Go.Sort Num

theorem ok_buck {x : Bk} (h : x.ok = true) : ∃ y : Buck, y.raw = x := by
  unfold Bk.ok amtB at h
  simp only [Bool.and_eq_true, decide_eq_true_eq] at h
  obtain ⟨⟨h1, h2⟩, h3, h4⟩ := h
  obtain ⟨r, e1, e2, hr⟩ := r_of_vld h2
  obtain ⟨s, e3, e4, hs⟩ := r_of_vld h4
  refine ⟨⟨r, s, hr, hs, Rat.num_nonneg.1 (by omega), Rat.num_nonneg.1 (by omega)⟩, ?_⟩
  show (⟨r.num, (r.den : Int), s.num, (s.den : Int)⟩ : Bk) = x
  rw [e1, e2, e3, e4]
theorem ok_bucks : ∀ {c : List Bk}, (∀ x ∈ c, x.ok = true) → ∃ d : List Buck, c = d.map Buck.raw
  | [], _ => ⟨[], rfl⟩
  | x :: c, h => by
    obtain ⟨y, hy⟩ := ok_buck (h x List.mem_cons_self)
    obtain ⟨d, hd⟩ := ok_bucks (c := c) fun z hz => h z (List.mem_cons_of_mem _ hz)
    exact ⟨y :: d, by rw [hd, ← hy]; rfl⟩
theorem val_bucks {c : List Bk} (h : valC c = true) : ∃ d : List Buck, c = d.map Buck.raw ∧ 1 ≤ d.length ∧ d.length ≤ 32 := by
  unfold valC at h
  simp only [Bool.and_eq_true, decide_eq_true_eq, List.all_eq_true] at h
  obtain ⟨d, rfl⟩ := ok_bucks h.2
  rw [List.length_map] at h
  exact ⟨d, rfl, h.1.1, h.1.2⟩
theorem amt_rat {n d : Int} (h : amtB n d = true) : ∃ t : Rat, t.num = n ∧ (t.den : Int) = d ∧ Fit t ∧ 0 ≤ t := by
  unfold amtB at h
  simp only [Bool.and_eq_true, decide_eq_true_eq] at h
  obtain ⟨r, e1, e2, hr⟩ := r_of_vld h.2
  exact ⟨r, e1, e2, hr, Rat.num_nonneg.1 (by omega)⟩

/-- A call answers v in every world that has grown from w. -/
abbrev Gives (w : World) (f : FuncId) (args : Array Value) (v : Value) : Prop := ∀ W : World, Below w.heap.size w W → Calls Tryz.prog f args W fun e w' => e = .returned v ∧ Below W.heap.size W w'
/-- A call answers the buckets c and the error e. -/
abbrev GivesC (w : World) (f : FuncId) (args : Array Value) (c : List Buck) (e : Int) : Prop := ∀ W : World, Below w.heap.size w W → Calls Tryz.prog f args W fun r w' => ∃ A cap, r = .returned (.tuple #[.slice A c.length cap, .int .i64 e]) ∧ isC A cap c w' ∧ Below W.heap.size W w'
abbrev GivesP (w : World) (f : FuncId) (args : Array Value) (c : List Pt) (e : Int) : Prop := ∀ W : World, Below w.heap.size w W → Calls Tryz.prog f args W fun r w' => ∃ A cap, r = .returned (.tuple #[.slice A c.length cap, .int .i64 e]) ∧ isP A c w' ∧ Below W.heap.size W w'
theorem isC_nil (w : World) : isC none 0 [] w := ⟨none, 0, rfl, fun h => absurd rfl h⟩
theorem givesC_nil {w : World} {f : FuncId} {args : Array Value} {e : Int} (h : ∀ W : World, Below w.heap.size w W → Calls Tryz.prog f args W fun r w' => r = .returned (.tuple #[.slice none 0 0, .int .i64 e]) ∧ Below W.heap.size W w') : GivesC w f args [] e :=
  fun W hb => (h W hb).mono fun _ w' ⟨h1, h2⟩ => ⟨none, 0, h1, isC_nil w', h2⟩
theorem givesP_nil {w : World} {f : FuncId} {args : Array Value} {e : Int} (h : ∀ W : World, Below w.heap.size w W → Calls Tryz.prog f args W fun r w' => r = .returned (.tuple #[.slice none 0 0, .int .i64 e]) ∧ Below W.heap.size W w') : GivesP w f args [] e :=
  fun W hb => (h W hb).mono fun _ _ ⟨h1, h2⟩ => ⟨none, 0, h1, fun h => absurd rfl h, h2⟩
theorem OutS.is {W : World} {v : Value} {c : List Buck} (h : OutS W v c) : ∃ A cap, v = .slice A c.length cap ∧ Go.Proofs.YtaanhddgmiggfaaGreat.isC A cap c W := by
  obtain ⟨A, cap, rfl⟩ := h.form
  exact ⟨A, cap, rfl, h.sl⟩
theorem OutP.is {W : World} {v : Value} {c : List Pt} (h : OutP W v c) : ∃ A cap, v = .slice A c.length cap ∧ isP A c W := by
  obtain ⟨A, cap, rfl⟩ := h.form
  refine ⟨A, cap, rfl, fun hc => ?_⟩
  obtain ⟨g, e, h1, h2⟩ := h.cells hc
  exact ⟨g, e, h1, h2⟩

theorem brk_len {n : List Buck} (h : n.length ≤ 32) : (brkL n).length ≤ 1048576 := by
  unfold brkL
  have h1 := compL_len (sortP ((twosL n).map meetP))
  rw [sortP_length, List.length_map] at h1
  have h2 := Nat.le_trans (twosL_length n) (Nat.mul_le_mul h h)
  omega
/-- A curve as it came in: its slice, and its row in w. -/
structure Raw (w : World) (A : Option Addr) (cap : Nat) (c : List Bk) : Prop where
  len : c.length ≤ 1048576
  bd : ∀ x ∈ c, x.bd64
  row : SlR w.heap.size w (.slice A c.length cap) c
theorem Raw.at' {w W : World} {A : Option Addr} {cap : Nat} {c : List Bk} (h : Raw w A cap c) (hb : Below w.heap.size w W) : SlR W.heap.size W (.slice A c.length cap) c := (h.row.below hb (Nat.le_refl _)).more hb.size
theorem Raw.sl {w W : World} {A : Option Addr} {cap : Nat} {d : List Buck} (h : Raw w A cap (d.map Buck.raw)) (hb : Below w.heap.size w W) : Sl W.heap.size W (.slice A d.length cap) d := by
  have := h.at' hb
  rw [List.length_map] at this
  exact slR_iff.1 this

section
variable {w : World} {A B : Option Addr} {ca cb : Nat} {a b : List Bk} (ha : Raw w A ca a)
include ha
theorem valid_pair : Gives w 16 #[.slice A a.length ca] (.bool (valC a)) ∧ Gives w 17 #[.slice A a.length ca] (.bool (valC a)) :=
  ⟨fun W hb => Go.Proofs.YtaanhddgmiggfaaGreat.valid_c A ca a ha.len ha.bd W (ha.at' hb), fun W hb => valid_c A ca a ha.len ha.bd W (ha.at' hb)⟩
theorem rate_pair : ∃ r, Gives w 14 #[.slice A a.length ca] (ratV r) ∧ Gives w 15 #[.slice A a.length ca] (ratV r) := by
  cases h : valC a
  · exact ⟨(0, 0, 2), fun W hb => Go.Proofs.YtaanhddgmiggfaaGreat.rate_bad A ca a ha.len ha.bd W (ha.at' hb) h, fun W hb => rate_bad A ca a ha.len ha.bd W (ha.at' hb) h⟩
  · obtain ⟨d, rfl, h1, h2⟩ := val_bucks h
    rw [List.length_map]
    exact ⟨_, fun W hb => Go.Proofs.YtaanhddgmiggfaaGreat.rate_ok A ca d h1 h2 W (ha.sl hb), fun W hb => rate_ok A ca d h1 h2 W (ha.sl hb)⟩
theorem at_pair (tn td : Int) (h1 : I64 tn) (h2 : I64 td) : ∃ r, Gives w 12 #[.slice A a.length ca, .agg #[.int .i64 tn, .int .i64 td]] (ratV r) ∧ Gives w 13 #[.slice A a.length ca, .agg #[.int .i64 tn, .int .i64 td]] (ratV r) := by
  cases h : (valC a && amtB tn td)
  · exact ⟨(0, 0, 2), fun W hb => Go.Proofs.YtaanhddgmiggfaaGreat.at_bad A ca a tn td ha.len ha.bd h1 h2 W (ha.at' hb) h, fun W hb => at_bad A ca a tn td ha.len ha.bd h1 h2 W (ha.at' hb) h⟩
  · rw [Bool.and_eq_true] at h
    obtain ⟨d, rfl, k1, k2⟩ := val_bucks h.1
    obtain ⟨t, rfl, rfl, k3, k4⟩ := amt_rat h.2
    rw [List.length_map]
    exact ⟨_, fun W hb => Go.Proofs.YtaanhddgmiggfaaGreat.at_ok A ca d t k1 k2 k3 k4 W (ha.sl hb), fun W hb => at_ok A ca d t k1 k2 k3 k4 W (ha.sl hb)⟩
theorem norm_pair : ∃ c e, c.length ≤ 1048576 ∧ GivesC w 19 #[.slice A a.length ca] c e ∧ (valC a = false → c = [] ∧ e = 2) ∧
    (valC a = true → e = 0 ∧ ∀ W : World, Below w.heap.size w W → Calls Tryz.prog 18 #[.slice A a.length ca] W fun r w' => ∃ A' cap, r = .returned (.slice A' c.length cap) ∧ isC A' cap c w' ∧ Below W.heap.size W w') := by
  cases h : valC a
  · exact ⟨[], 2, by decide, givesC_nil fun W hb => Go.Proofs.YtaanhddgmiggfaaGreat.norm_bad A ca a ha.len ha.bd W (ha.at' hb) h, fun _ => ⟨rfl, rfl⟩, (fun h => by cases h)⟩
  · obtain ⟨d, rfl, h1, h2⟩ := val_bucks h
    rw [List.length_map]
    refine ⟨normL d, 0, ?_, fun W hb => (Go.Proofs.YtaanhddgmiggfaaGreat.norm_ok A ca d h1 h2 W (ha.sl hb)).mono ?_, (fun h => by cases h), fun _ => ⟨rfl, fun W hb => (norm_any A ca d (by omega) W (ha.sl hb)).mono ?_⟩⟩
    · have := normL_len d; omega
    · rintro _ w' ⟨v, rfl, ho, hb'⟩
      obtain ⟨A', c', rfl, hi⟩ := own_is ho
      exact ⟨A', c', rfl, hi, hb'⟩
    · rintro _ w' ⟨v, rfl, ho, hb'⟩
      obtain ⟨A', c', rfl, hi⟩ := ho.is
      exact ⟨A', c', rfl, hi, hb'⟩
theorem shift_pair (tn td : Int) (h1 : I64 tn) (h2 : I64 td) : ∃ c e, c.length ≤ 1048576 ∧ GivesC w 25 #[.slice A a.length ca, .agg #[.int .i64 tn, .int .i64 td]] c e ∧ GivesC w 26 #[.slice A a.length ca, .agg #[.int .i64 tn, .int .i64 td]] c e := by
  cases h : (valC a && amtB tn td)
  · exact ⟨[], 2, by decide, givesC_nil fun W hb => Go.Proofs.YtaanhddgmiggfaaGreat.shift_bad A ca a tn td ha.len ha.bd h1 h2 W (ha.at' hb) h, givesC_nil fun W hb => shift_bad A ca a tn td ha.len ha.bd h1 h2 W (ha.at' hb) h⟩
  · rw [Bool.and_eq_true] at h
    obtain ⟨d, rfl, k1, k2⟩ := val_bucks h.1
    obtain ⟨t, rfl, rfl, k3, k4⟩ := amt_rat h.2
    rw [List.length_map]
    by_cases hok : ∀ x ∈ d, okv x t
    · refine ⟨normL (d.map (shiftB t)), 0, ?_, fun W hb => (Go.Proofs.YtaanhddgmiggfaaGreat.shift_ok A ca d t k1 k2 k3 k4 W (ha.sl hb)).mono ?_, fun W hb => (shift_ok A ca d t k1 k2 k3 k4 W (ha.sl hb)).mono ?_⟩
      · have := normL_len (d.map (shiftB t)); rw [List.length_map] at this; omega
      · rintro _ w' ⟨hy, -, hb'⟩
        obtain ⟨v, rfl, ho⟩ := hy hok
        obtain ⟨A', c', rfl, hi⟩ := own_is ho
        exact ⟨A', c', rfl, hi, hb'⟩
      · rintro _ w' ⟨hy, -, hb'⟩
        obtain ⟨v, rfl, ho⟩ := hy hok
        obtain ⟨A', c', rfl, hi⟩ := ho.is
        exact ⟨A', c', rfl, hi, hb'⟩
    · exact ⟨[], 3, by decide, givesC_nil fun W hb => (Go.Proofs.YtaanhddgmiggfaaGreat.shift_ok A ca d t k1 k2 k3 k4 W (ha.sl hb)).mono fun _ _ h => ⟨h.2.1 hok, h.2.2⟩, givesC_nil fun W hb => (shift_ok A ca d t k1 k2 k3 k4 W (ha.sl hb)).mono fun _ _ h => ⟨h.2.1 hok, h.2.2⟩⟩
theorem breaks_pair : ∃ c e, c.length ≤ 1048576 ∧ GivesP w 27 #[.slice A a.length ca] c e ∧ GivesP w 28 #[.slice A a.length ca] c e := by
  cases h : valC a
  · exact ⟨[], 2, by decide, givesP_nil fun W hb => callsIn_wide.1 (Go.Proofs.YtaanhddgmiggfaaGreat.breaks_bad A ca a ha.len ha.bd W (ha.at' hb) h), givesP_nil fun W hb => breaks_bad A ca a ha.len ha.bd W (ha.at' hb) h⟩
  · obtain ⟨d, rfl, h1, h2⟩ := val_bucks h
    rw [List.length_map]
    by_cases hok : ∀ p ∈ twosL (normL d), okm p
    · refine ⟨brkL (normL d), 0, brk_len (Nat.le_trans (normL_len d) h2), fun W hb => (callsIn_wide.1 (Go.Proofs.YtaanhddgmiggfaaGreat.breaks_in A ca d h1 h2 W (ha.sl hb))).mono ?_, fun W hb => (breaks_ok A ca d h1 h2 W (ha.sl hb)).mono ?_⟩
      · rintro _ w' ⟨-, hy, hb'⟩
        obtain ⟨A', c', rfl, hi⟩ := hy hok
        exact ⟨A', c', rfl, hi, hb'⟩
      · rintro _ w' ⟨-, hy, hb'⟩
        obtain ⟨v, rfl, ho⟩ := hy hok
        obtain ⟨A', c', rfl, hi⟩ := ho.is
        exact ⟨A', c', rfl, hi, hb'⟩
    · exact ⟨[], 3, by decide, givesP_nil fun W hb => (callsIn_wide.1 (Go.Proofs.YtaanhddgmiggfaaGreat.breaks_in A ca d h1 h2 W (ha.sl hb))).mono fun _ _ h => ⟨h.1 hok, h.2.2⟩, givesP_nil fun W hb => (breaks_ok A ca d h1 h2 W (ha.sl hb)).mono fun _ _ h => ⟨h.1 hok, h.2.2⟩⟩
variable (hb : Raw w B cb b)
include hb
theorem sum_pair : ∃ c e, c.length ≤ 1048576 ∧ GivesC w 21 #[.slice A a.length ca, .slice B b.length cb] c e ∧ GivesC w 22 #[.slice A a.length ca, .slice B b.length cb] c e := by
  cases h : (valC a && valC b)
  · exact ⟨[], 2, by decide, givesC_nil fun W hw => callsIn_wide.1 (Go.Proofs.YtaanhddgmiggfaaGreat.sum_bad A B ca cb a b ha.len ha.bd hb.len hb.bd W (ha.at' hw) (hb.at' hw) h), givesC_nil fun W hw => sum_bad A B ca cb a b ha.len ha.bd hb.len hb.bd W (ha.at' hw) (hb.at' hw) h⟩
  · rw [Bool.and_eq_true] at h
    obtain ⟨d, rfl, h1, h2⟩ := val_bucks h.1
    obtain ⟨f, rfl, h3, h4⟩ := val_bucks h.2
    rw [List.length_map, List.length_map]
    by_cases hm : 32 < (normL d).length * (normL f).length
    · exact ⟨[], 5, by decide, givesC_nil fun W hw => (callsIn_wide.1 (Go.Proofs.YtaanhddgmiggfaaGreat.sum_in A B ca cb d f h1 h2 h3 h4 W (ha.sl hw) (hb.sl hw))).mono fun _ _ h => ⟨h.1 hm, h.2.2.2⟩, givesC_nil fun W hw => (sum_ok A B ca cb d f h1 h2 h3 h4 W (ha.sl hw) (hb.sl hw)).mono fun _ _ h => ⟨h.1 hm, h.2.2.2⟩⟩
    · have hm' := Nat.not_lt.1 hm
      by_cases hok : ∀ p ∈ pairsL (normL d) (normL f), oka p
      · refine ⟨normL ((pairsL (normL d) (normL f)).map addB), 0, ?_, fun W hw => (callsIn_wide.1 (Go.Proofs.YtaanhddgmiggfaaGreat.sum_in A B ca cb d f h1 h2 h3 h4 W (ha.sl hw) (hb.sl hw))).mono ?_, fun W hw => (sum_ok A B ca cb d f h1 h2 h3 h4 W (ha.sl hw) (hb.sl hw)).mono ?_⟩
        · have := normL_len ((pairsL (normL d) (normL f)).map addB); rw [List.length_map, pairsL_len] at this; omega
        · rintro _ w' ⟨-, -, hy, hb'⟩
          obtain ⟨v, rfl, ho⟩ := hy hm' hok
          obtain ⟨A', c', rfl, hi⟩ := own_is ho
          exact ⟨A', c', rfl, hi, hb'⟩
        · rintro _ w' ⟨-, -, hy, hb'⟩
          obtain ⟨v, rfl, ho⟩ := hy hm' hok
          obtain ⟨A', c', rfl, hi⟩ := ho.is
          exact ⟨A', c', rfl, hi, hb'⟩
      · exact ⟨[], 3, by decide, givesC_nil fun W hw => (callsIn_wide.1 (Go.Proofs.YtaanhddgmiggfaaGreat.sum_in A B ca cb d f h1 h2 h3 h4 W (ha.sl hw) (hb.sl hw))).mono fun _ _ h => ⟨h.2.1 hm' hok, h.2.2.2⟩, givesC_nil fun W hw => (sum_ok A B ca cb d f h1 h2 h3 h4 W (ha.sl hw) (hb.sl hw)).mono fun _ _ h => ⟨h.2.1 hm' hok, h.2.2.2⟩⟩
theorem min_pair : ∃ c e, c.length ≤ 1048576 ∧ GivesC w 23 #[.slice A a.length ca, .slice B b.length cb] c e ∧ GivesC w 24 #[.slice A a.length ca, .slice B b.length cb] c e := by
  cases h : (valC a && valC b)
  · exact ⟨[], 2, by decide, givesC_nil fun W hw => Go.Proofs.YtaanhddgmiggfaaGreat.min_bad A B ca cb a b ha.len ha.bd hb.len hb.bd W (ha.at' hw) (hb.at' hw) h, givesC_nil fun W hw => min_bad A B ca cb a b ha.len ha.bd hb.len hb.bd W (ha.at' hw) (hb.at' hw) h⟩
  · rw [Bool.and_eq_true] at h
    obtain ⟨d, rfl, h1, h2⟩ := val_bucks h.1
    obtain ⟨f, rfl, h3, h4⟩ := val_bucks h.2
    rw [List.length_map, List.length_map]
    by_cases hm : 32 < (normL (d ++ f)).length
    · exact ⟨[], 5, by decide, givesC_nil fun W hw => (Go.Proofs.YtaanhddgmiggfaaGreat.min_ok A B ca cb d f h1 h2 h3 h4 W (ha.sl hw) (hb.sl hw)).mono fun _ _ h => ⟨h.2.1 hm, h.2.2⟩, givesC_nil fun W hw => (min_ok A B ca cb d f h1 h2 h3 h4 W (ha.sl hw) (hb.sl hw)).mono fun _ _ h => ⟨h.2.1 hm, h.2.2⟩⟩
    · have hm' := Nat.not_lt.1 hm
      refine ⟨normL (d ++ f), 0, by omega, fun W hw => (Go.Proofs.YtaanhddgmiggfaaGreat.min_ok A B ca cb d f h1 h2 h3 h4 W (ha.sl hw) (hb.sl hw)).mono ?_, fun W hw => (min_ok A B ca cb d f h1 h2 h3 h4 W (ha.sl hw) (hb.sl hw)).mono ?_⟩
      · rintro _ w' ⟨hy, -, hb'⟩
        obtain ⟨v, rfl, ho⟩ := hy hm'
        obtain ⟨A', c', rfl, hi⟩ := own_is ho
        exact ⟨A', c', rfl, hi, hb'⟩
      · rintro _ w' ⟨hy, -, hb'⟩
        obtain ⟨v, rfl, ho⟩ := hy hm'
        obtain ⟨A', c', rfl, hi⟩ := ho.is
        exact ⟨A', c', rfl, hi, hb'⟩
end

/-- The law's own comparison, at two equal answers. -/
theorem same_law (A B : Option Addr) (ca cb : Nat) (c : List Buck) (e : Int) (hc : c.length ≤ 1048576) (w : World) (hA : isC A ca c w) (hB : isC B cb c w) :
    Calls Tryz.prog 20 #[.slice A c.length ca, .int .i64 e, .slice B c.length cb, .int .i64 e] w fun r w' => r = .returned (.bool true) ∧ Below w.heap.size w w' := by
  have HS := same_any A B ca cb c c hc hc w hA hB
  rw [decide_eq_true rfl] at HS
  clear hA hB
  go_enter Tryz.func20, Tryz.ntmps20
  go_wp2_with fail
  (with_reducible refine HS.mono ?_); rintro _ w1 ⟨rfl, hb⟩
  go_wp2
  go_ret
  exact ⟨rfl, hb⟩
end Go.Proofs.YtaanhddgmiggfaaGreat.Ref
