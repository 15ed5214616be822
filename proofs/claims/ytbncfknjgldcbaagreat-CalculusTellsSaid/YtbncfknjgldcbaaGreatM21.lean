/- Merged texts: CAwNum, CInv. -/
import Derived.Test.YtbncfknjgldcbaaGreatM16
import Derived.Test.YtbncfknjgldcbaaGreatM18
import Derived.Test.YtbncfknjgldcbaaGreatM19
import Derived.Test.YtbncfknjgldcbaaGreatM20
import Derived.Test.YtbncfknjgldcbaaGreatM4
/- The numbers of nacellelaw03's awake. -/
namespace Go.Proofs.YtbncfknjgldcbaaGreat
open Go.RowKit Go.Joins Go.Shelf Go.Sort Num

namespace Aw3
instance (x y : Buck) : Decidable (x.bef y) := inferInstanceAs (Decidable (_ ∧ _))
instance (x y : Buck) : Decidable (x.le y) := inferInstanceAs (Decidable (_ ∧ _))
def q1 : Buck := mkBuck 100 (1 / 2)
def q2 : Buck := mkBuck 60 (1 / 4)
def q3 : Buck := mkBuck 40 1
def q4 : Buck := mkBuck 10 4
def q5 : Buck := mkBuck 10 3
def fr : List Sn := [⟨0, 0, 10⟩, ⟨3, 0, 10⟩]
theorem fit16 : Fit (16 : Rat) := by constructor <;> decide
theorem norm1 : normL [q1] = [q1] := nf_uniq ⟨by decide +kernel, by decide +kernel, by decide +kernel⟩
theorem norm2 : normL [q2] = [q2] := nf_uniq ⟨by decide +kernel, by decide +kernel, by decide +kernel⟩
theorem norm13 : normL [q1, q3] = [q3, q1] := nf_uniq ⟨by decide +kernel, by decide +kernel, by decide +kernel⟩
theorem sort_nil : sortP [] = [] := by unfold sortP; exact List.mergeSort_nil
theorem sort_one (p : Pt) : sortP [p] = [p] := List.mergeSort_singleton _
theorem brk1 : brkL [q1] = [] := by
  unfold brkL
  rw [show (twosL [q1]).map meetP = [] from rfl, sort_nil]
  rfl
theorem brk2 : brkL [q2] = [] := by
  unfold brkL
  rw [show (twosL [q2]).map meetP = [] from rfl, sort_nil]
  rfl
theorem brk13 : brkL [q3, q1] = [mkPt 120] := by
  unfold brkL
  rw [show (twosL [q3, q1]).map meetP = [mkPt 120] by decide +kernel, sort_one]
  rfl
theorem pts12 : ptsL [[q1], [q2]] = [] := by
  show brkL (normL [q1]) ++ (brkL (normL [q2]) ++ []) = []
  rw [norm1, norm2, brk1, brk2]
  rfl
theorem pts132 : ptsL [[q1, q3], [q2]] = [mkPt 120] := by
  show brkL (normL [q1, q3]) ++ (brkL (normL [q2]) ++ []) = _
  rw [norm13, norm2, brk13, brk2]
  rfl
theorem tick0 : ticksL [] = [0] := by
  unfold ticksL
  rw [show (0 :: flatT []) = [(0 : Int)] from rfl, List.mergeSort_singleton]
  decide +kernel
theorem tick16 : ticksL [(⟨16, fit16⟩ : Pt)] = [0, 16] := by
  unfold ticksL
  rw [show (0 :: flatT [(⟨16, fit16⟩ : Pt)]) = [(0 : Int), 16, 16] by decide +kernel, List.mergeSort_of_pairwise (by decide)]
  decide +kernel
theorem tick120 : ticksL [mkPt 120] = [0, 120] := by
  unfold ticksL
  rw [show (0 :: flatT [mkPt 120]) = [(0 : Int), 120, 120] by decide +kernel, List.mergeSort_of_pairwise (by decide)]
  decide +kernel
theorem ok12 : brksOk [[q1], [q2]] := by
  intro c hc
  simp only [List.mem_cons, List.not_mem_nil, or_false] at hc
  rcases hc with rfl | rfl
  · rw [norm1]; intro p hp; cases hp
  · rw [norm2]; intro p hp; cases hp
theorem ok132 : brksOk [[q1, q3], [q2]] := by
  intro c hc
  simp only [List.mem_cons, List.not_mem_nil, or_false] at hc
  rcases hc with rfl | rfl
  · rw [norm13]; decide +kernel
  · rw [norm2]; intro p hp; cases hp
theorem prep12 : prepE [[q1], [q2]] 1 = 0 := by
  unfold prepE
  rw [if_pos ok12]
  decide +kernel
theorem prep132 : prepE [[q1, q3], [q2]] 1 = 0 := by
  unfold prepE
  rw [if_pos ok132]
  decide +kernel
theorem delay12 : delayV [[q1], [q2]] 1 16 = (176, 1, 0) := by
  unfold delayV
  rw [if_pos prep12, pts12, tick0]
  decide +kernel
theorem back12 : backV [[q1], [q2]] 1 16 fit16 = (172, 1, 0) := by
  unfold backV
  rw [if_pos prep12, pts12, List.nil_append, tick16]
  decide +kernel
theorem delay132 : delayV [[q1, q3], [q2]] 1 16 = (146, 1, 0) := by
  unfold delayV
  rw [if_pos prep132, pts132, tick120]
  decide +kernel
theorem fr_ok : frOk 0 fr = true := by decide +kernel
theorem fr_bd : ∀ x ∈ fr, x.bd64 := by
  intro x hx
  simp only [fr, List.mem_cons, List.not_mem_nil, or_false] at hx
  rcases hx with rfl | rfl <;> constructor <;> decide
theorem fr_serve : serveL 2 5 0 fr = [25, 45] := by decide +kernel
theorem gap_of {h : Int} (hh : 3 ≤ h) : NoGap fr h := by
  intro k x y hx hy
  have hx := List.mem_of_getElem? hx
  simp only [fr, List.mem_cons, List.not_mem_nil, or_false] at hx
  simp only [fr, List.getElem?_cons_zero, Option.some.injEq] at hy
  subst hy
  rcases hx with rfl | rfl
  · show (0 : Int) - 0 ≤ h; omega
  · show (3 : Int) - 0 ≤ h; omega
theorem gap4 : NoGap fr (harmL 1073741824 [q4]) := gap_of (by decide +kernel)
theorem gap5 : NoGap fr (harmL 1073741824 [q5]) := gap_of (by decide +kernel)
theorem hold4 : ([q4].any fun x => !holdsB x fr) = false := by decide +kernel
theorem hold5 : ([q5].any fun x => !holdsB x fr) = true := by decide +kernel
theorem cells1 : cellsOf [q1] = [.int .i64 100, .int .i64 1, .int .i64 1, .int .i64 2] := by kernel_rfl
theorem cells2 : cellsOf [q2] = [.int .i64 60, .int .i64 1, .int .i64 1, .int .i64 4] := by kernel_rfl
theorem cells13 : cellsOf [q1, q3] = [.int .i64 100, .int .i64 1, .int .i64 1, .int .i64 2, .int .i64 40, .int .i64 1, .int .i64 1, .int .i64 1] := by kernel_rfl
theorem cells4 : cellsOf [q4] = [.int .i64 10, .int .i64 1, .int .i64 4, .int .i64 1] := by kernel_rfl
theorem cells5 : cellsOf [q5] = [.int .i64 10, .int .i64 1, .int .i64 3, .int .i64 1] := by kernel_rfl
end Aw3
end Go.Proofs.YtbncfknjgldcbaaGreat
/- A region that draws its order, walked by an invariant: each operation is met once, whatever came before it. -/
namespace Go.Proofs.YtbncfknjgldcbaaGreat
open Go.RowKit

section
variable {P : Program} {md : Region.Mode} {ops : Array Oper} {Q : Exit → Act → World → Prop}

/-- Where each operation waits for earlier ones alone, all have run when none may come up. -/
theorem all_listed (hdown : ∀ (i : Nat) (o : Oper), ops[i]? = some o → ∀ e ∈ o.after, Region.binds md e = true → e.on < i) (L : Array Bool) (hsz : L.size = ops.size) (hr : Region.ready md ops L = []) :
    ∀ i, i < ops.size → L.getD i true = true := by
  intro i
  induction i using Nat.strongRecOn with
  | _ i ih =>
    intro hi
    cases hl : L.getD i true with
    | true => rfl
    | false =>
      have hm : i ∈ Region.ready md ops L := by
        rw [mem_ready]
        refine ⟨hl, ops[i], Array.getElem?_eq_getElem hi, fun e he hbn => ?_⟩
        have hlt := hdown i _ (Array.getElem?_eq_getElem hi) e he hbn
        have := ih e.on hlt (by omega)
        have h2 : e.on < L.size := by omega
        simp only [Array.getD, h2, dif_pos] at this ⊢
        exact this
      rw [hr] at hm; cases hm

theorem wpAny_inv {Inv : Array Bool → Act → World → Prop} (hdown : ∀ (i : Nat) (o : Oper), ops[i]? = some o → ∀ e ∈ o.after, Region.binds md e = true → e.on < i)
    (hsz : ∀ L a w, Inv L a w → L.size = ops.size)
    (hdone : ∀ L a w, Inv L a w → (∀ i, i < ops.size → L.getD i true = true) → Q .normal a w)
    (hstep : ∀ L a w i o, Inv L a w → ops[i]? = some o → L.getD i true = false → (∀ e ∈ o.after, Region.binds md e = true → L.getD e.on false = true) → wpOp P ops Q i (Inv (L.setIfInBounds i true)) a w) :
    ∀ fuel L a w, Inv L a w → L.toList.countP (fun b => !b) ≤ fuel → wpAny P md ops Q fuel L a w := by
  intro fuel
  induction fuel with
  | zero =>
    intro L a w hI hc
    have hall : ∀ b ∈ L.toList, b = true := by
      intro b hb
      have h0 : L.toList.countP (fun b => !b) = 0 := by omega
      rw [List.countP_eq_zero] at h0
      have := h0 b hb
      simpa using this
    have hr : Region.ready md ops L = [] := by
      rw [List.eq_nil_iff_forall_not_mem]
      intro i hi
      rw [mem_ready] at hi
      obtain ⟨h1, o, ho, _⟩ := hi
      have hlt : i < L.size := by rw [hsz L a w hI]; exact (Array.getElem?_eq_some_iff.1 ho).1
      have h2 : L[i] = true := hall _ (by simp)
      simp only [Array.getD, hlt, dif_pos] at h1
      rw [show L.getInternal i hlt = L[i] from rfl, h2] at h1
      cases h1
    exact ⟨hr, hdone L a w hI (all_listed hdown L (hsz L a w hI) hr)⟩
  | succ fuel ih =>
    intro L a w hI hc
    refine ⟨fun hr => hdone L a w hI (all_listed hdown L (hsz L a w hI) hr), fun i hi => ?_⟩
    rw [mem_ready] at hi
    obtain ⟨h1, o, ho, hdep⟩ := hi
    have hlt : i < L.size := by rw [hsz L a w hI]; exact (Array.getElem?_eq_some_iff.1 ho).1
    have h1' : L[i] = false := by
      have h2 := h1
      simp only [Array.getD, hlt, dif_pos] at h2
      exact h2
    refine wpOp_mono (fun a' w' h => ih _ a' w' h ?_) (hstep L a w i o hI ho h1 hdep)
    rw [Array.toList_setIfInBounds, List.countP_set (by simpa using hlt)]
    have hp : 0 < L.toList.countP (fun b => !b) := by
      rw [List.countP_pos_iff]
      exact ⟨L[i], by simp, by rw [h1']; rfl⟩
    have e : L.toList[i]'(by simpa using hlt) = false := by simpa using h1'
    rw [e]
    simp only [Bool.not_false, Bool.not_true, if_true, Bool.false_eq_true, if_false]
    omega

theorem wp_region_inv {id : Nat} {a : Act} {w : World} {Inv : Array Bool → Act → World → Prop} (hm : P.follows .mixedOrders = true)
    (hdown : ∀ (i : Nat) (o : Oper), ops[i]? = some o → ∀ e ∈ o.after, Region.binds .any e = true → e.on < i) (h0 : Inv (Array.replicate ops.size false) a w.drew)
    (hsz : ∀ L a w, Inv L a w → L.size = ops.size)
    (hdone : ∀ L a w, Inv L a w → (∀ i, i < ops.size → L.getD i true = true) → Q .normal a w)
    (hstep : ∀ L a w i o, Inv L a w → ops[i]? = some o → L.getD i true = false → (∀ e ∈ o.after, Region.binds .any e = true → L.getD e.on false = true) → wpOp P ops Q i (Inv (L.setIfInBounds i true)) a w) :
    (Code.region id ops true).wp P Q a w :=
  wp_region_any hm (wpAny_inv hdown hsz hdone hstep _ _ _ _ h0 (by
    have := List.countP_le_length (p := fun b : Bool => !b) (l := (Array.replicate ops.size false).toList)
    simpa using this))

theorem down_of (h : ((List.range ops.size).all fun i => match ops[i]? with
    | some o => o.after.toList.all fun e => !Region.binds .any e || decide (e.on < i)
    | none => true) = true) : ∀ (i : Nat) (o : Oper), ops[i]? = some o → ∀ e ∈ o.after, Region.binds .any e = true → e.on < i := by
  intro i o ho e he hbn
  rw [List.all_eq_true] at h
  have h1 := h i (List.mem_range.2 (Array.getElem?_eq_some_iff.1 ho).1)
  rw [ho] at h1
  simp only [List.all_eq_true] at h1
  have h2 := h1 e (by simpa using he)
  rw [hbn] at h2
  simpa using h2
/-- An operation without a guard runs. -/
theorem wpOp_run {i : Nat} {o : Oper} {K : Act → World → Prop} {a : Act} {w : World} (ho : ops[i]? = some o) (hg : o.guard = none) (h : o.wp P a w K Q) : wpOp P ops Q i K a w := by
  unfold wpOp
  rw [ho]
  have hw : Region.wanted o (yielded ops a.tmps) = true := by simp [Region.wanted, hg]
  simp only [hw, if_true]
  exact .inl h
/-- An operation that its guard lets run. -/
theorem wpOp_guard {i : Nat} {o : Oper} {K : Act → World → Prop} {a : Act} {w : World} (ho : ops[i]? = some o) (hw : Region.wanted o (yielded ops a.tmps) = true) (h : o.wp P a w K Q) : wpOp P ops Q i K a w := by
  unfold wpOp
  rw [ho]
  simp only [hw, if_true]
  exact .inl h
end
end Go.Proofs.YtbncfknjgldcbaaGreat
