/- curve.Sum. -/
import Derived.Test.YtaanhddgmiggfaaGreatPairs
namespace Go.Proofs.YtaanhddgmiggfaaGreat
open Go.RowKit Go.Joins Go.Shelf Go.Sort Num
attribute [local go_sem] Oper.semAt_some

def oka (p : Buck × Buck) : Prop := Fit (p.1.b + p.2.b) ∧ Fit (p.1.r + p.2.r)
instance (p : Buck × Buck) : Decidable (oka p) := inferInstanceAs (Decidable (_ ∧ _))
def addB (p : Buck × Buck) : Buck := mkBuck (p.1.b + p.2.b) (p.1.r + p.2.r)
theorem addV_ok {p : Buck × Buck} (h : oka p) : addV p.1.b p.1.r p.2.b p.2.r = (((p.1.b + p.2.b).num, ((p.1.b + p.2.b).den : Int), (p.1.r + p.2.r).num, ((p.1.r + p.2.r).den : Int)), 0) := if_pos h
theorem addV_no {p : Buck × Buck} (h : ¬ oka p) : addV p.1.b p.1.r p.2.b p.2.r = ((0, 0, 0, 0), 3) := if_neg h
theorem add_h {p : Buck × Buck} (h : oka p) : (Fit (p.1.b + p.2.b) ∧ Fit (p.1.r + p.2.r)) ∧ (0 ≤ p.1.b + p.2.b ∧ 0 ≤ p.1.r + p.2.r) := ⟨h, Rat.add_nonneg p.1.pb p.2.pb, Rat.add_nonneg p.1.pr p.2.pr⟩
theorem add_cells {p : Buck × Buck} (h : oka p) : (addB p).cells = [.int .i64 (p.1.b + p.2.b).num, .int .i64 (p.1.b + p.2.b).den, .int .i64 (p.1.r + p.2.r).num, .int .i64 (p.1.r + p.2.r).den] := by
  unfold addB Buck.cells
  rw [mk_b (add_h h), mk_r (add_h h)]

def SumPost (na nb : List Buck) (w : World) (e : Ending) (w' : World) : Prop :=
  (32 < na.length * nb.length → e = .returned (.tuple #[.slice none 0 0, .int .i64 5])) ∧
  (na.length * nb.length ≤ 32 → (¬ ∀ p ∈ pairsL na nb, oka p) → e = .returned (.tuple #[.slice none 0 0, .int .i64 3])) ∧
  (na.length * nb.length ≤ 32 → (∀ p ∈ pairsL na nb, oka p) → ∃ v, e = .returned (.tuple #[v, .int .i64 0]) ∧ Own4 w.heap.size w' v (normL ((pairsL na nb).map addB))) ∧ Below w.heap.size w w'

theorem BoxN.far {W : World} {B : Nat} {t : TypeId} {cs : Array Value} (h : BoxN W B t cs) {p : Addr} (hp : B ≠ p.block) (u : Value) : BoxN (W.setCell p u) B t cs := (Below.heap_setCell W p u B hp).trans h
/-- The two results in their boxes. -/
theorem res2 {W : World} {b4 b5 : Nat} {t4 t5 : TypeId} {x y : Value} (v e : Value) (h4 : BoxN W b4 t4 #[x]) (h5 : BoxN W b5 t5 #[y]) (hne : b4 ≠ b5) :
    BoxN ((W.setCell ⟨b4, 0, none⟩ v).setCell ⟨b5, 0, none⟩ e) b4 t4 #[v] ∧ BoxN ((W.setCell ⟨b4, 0, none⟩ v).setCell ⟨b5, 0, none⟩ e) b5 t5 #[e] :=
  ⟨(h4.set1 0 v).far (p := ⟨b5, 0, none⟩) hne e, ((h5.far (p := ⟨b4, 0, none⟩) (Ne.symm hne) v).set1 0 e)⟩

theorem sum_bad (A B : Option Addr) (ca cb : Nat) (a b : List Bk) (hla : a.length ≤ 1048576) (hba : ∀ x ∈ a, x.bd64) (hlb : b.length ≤ 1048576) (hbb : ∀ x ∈ b, x.bd64) (w : World) (hIa : SlR w.heap.size w (.slice A a.length ca) a) (hIb : SlR w.heap.size w (.slice B b.length cb) b) (hbad : (valC a && valC b) = false) :
    CallsIn Fence.wide 9 Tryz.prog 21 #[.slice A a.length ca, .slice B b.length cb] w fun e w' => e = .returned (.tuple #[.slice none 0 0, .int .i64 2]) ∧ Below w.heap.size w w' := by
  have hro : Fence.wide.round = none := rfl
  have hB0 := ((Below.refl w.heap.size w).alloc (Nat.le_refl _) (.cells #[.slice none 0 0] 23)).alloc (by simp) (.cells #[.int .i64 0] 27)
  have HV := callsIn_wide (n := 8).2 (valid_c A ca a hla hba _ ((hIa.below hB0 (Nat.le_refl _)).more hB0.size))
  have HT : Hid (∀ W : World, Below w.heap.size w W → _) := fun W hb => callsIn_wide (n := 8).2 (valid_c B cb b hlb hbb W ((hIb.below hb (Nat.le_refl _)).more hb.size))
  clear hIa hIb hba hbb
  generalize valC a = vc at hbad HV
  generalize valC b = va at hbad HT
  refine callsIn_of_wp_marks Tryz.func21 rfl trivial ?_ hro
  simp only [Tryz.ntmps21, List.size_toArray, List.length_cons, List.length_nil, Nat.reduceAdd, Nat.reduceSub, Array.replicate_succ, Array.replicate_zero, List.push_toArray, List.append_toArray, List.nil_append, List.cons_append]
  cases vc
  · gi_wp2_with fail
    refine ⟨trivial, ?_⟩
    (with_reducible refine HV.mono ?_); rintro e w1 ⟨rfl, hb1⟩
    obtain ⟨hc, hf⟩ := bcell hb1
    have hz := hb1.size
    simp only [World.size_alloc] at hc hf hz
    have hB := hB0.trans (hb1.mono hB0.size)
    have b4 := ((BoxN.new w 23 #[.slice none 0 0]).alloc (.cells #[.int .i64 0] 27)).below hb1 (by simp; omega)
    have b5 := (BoxN.new (w.alloc (.cells #[.slice none 0 0] 23)) 27 #[.int .i64 0]).below hb1 (by simp)
    rw [World.size_alloc] at b5
    gi_wp2
    refine ⟨trivial, ?_⟩
    gi_wp2
    obtain ⟨q4, q5⟩ := res2 (.slice none 0 0) (.int .i64 2) b4 b5 (by omega)
    have r4 := q4.cell 0
    have r5 := q5.cell 0
    refine ⟨.tuple #[.slice none 0 0, .int .i64 2], by simp [results, Tryz.f21, go_sem, r4, r5], rfl, ?_⟩
    (have hBs := hB.size; (try simp only [World.size_alloc] at hBs); repeat' (first | (with_reducible exact hB) | (with_reducible exact hBs) | (with_reducible refine Below.drew ?_) | (with_reducible refine below_drewN ?_ _) | (with_reducible refine Below.setCell ?_ ?_ _) | (with_reducible refine Below.alloc ?_ ?_ _) | go_size | omega | (simp; omega)))
  · obtain rfl : va = false := by simpa using hbad
    gi_wp2_with fail
    refine ⟨trivial, ?_⟩
    (with_reducible refine HV.mono ?_); rintro e w1 ⟨rfl, hb1⟩
    have hB1 := hB0.trans (hb1.mono hB0.size)
    have HT1 := HT.out _ hB1
    gi_wp2_with fail
    refine ⟨trivial, ?_⟩
    (with_reducible refine HT1.mono ?_); rintro e w2 ⟨rfl, hb2⟩
    replace hb2 := bnext hb1 hb2
    obtain ⟨hc, hf⟩ := bcell hb2
    have hz := hb2.size
    simp only [World.size_alloc] at hc hf hz
    have hB := hB0.trans (hb2.mono hB0.size)
    have b4 := ((BoxN.new w 23 #[.slice none 0 0]).alloc (.cells #[.int .i64 0] 27)).below hb2 (by simp; omega)
    have b5 := (BoxN.new (w.alloc (.cells #[.slice none 0 0] 23)) 27 #[.int .i64 0]).below hb2 (by simp)
    rw [World.size_alloc] at b5
    clear hb1 HT1
    gi_wp2
    obtain ⟨q4, q5⟩ := res2 (.slice none 0 0) (.int .i64 2) b4 b5 (by omega)
    have r4 := q4.cell 0
    have r5 := q5.cell 0
    refine ⟨.tuple #[.slice none 0 0, .int .i64 2], by simp [results, Tryz.f21, go_sem, r4, r5], rfl, ?_⟩
    (have hBs := hB.size; (try simp only [World.size_alloc] at hBs); repeat' (first | (with_reducible exact hB) | (with_reducible exact hBs) | (with_reducible refine Below.drew ?_) | (with_reducible refine below_drewN ?_ _) | (with_reducible refine Below.setCell ?_ ?_ _) | (with_reducible refine Below.alloc ?_ ?_ _) | go_size | omega | (simp; omega)))
end Go.Proofs.YtaanhddgmiggfaaGreat
