/- A region that draws its order, walked by an invariant: each operation is met once, whatever came before it. -/
import Derived.Test.YtdhofaiogbpjpaaBase
namespace Go.Proofs.Ytdhofaiogbpjpaa
open Go.RowKit

section
variable {P : Program} {md : Region.Mode} {ops : Array Oper} {Q : Exit → Act → World → Prop}

/-- Where each operation waits for earlier ones alone, all have run when none may come up. -/
theorem all_listed (hdown : ∀ (i : Nat) (o : Oper), ops[i]? = some o → ∀ e ∈ o.after, Region.binds md e = true → e.on < i) (L : Array Bool) (hsz : L.size = ops.size) (hr : Region.ready md ops L = []) :
    ∀ i, i < ops.size → L.getD i true = true := by
  intro i
  induction i using Nat.strongRecOn with
  | _ i ih =>
    intro hi
    cases hl : L.getD i true with
    | true => rfl
    | false =>
      have hm : i ∈ Region.ready md ops L := by
        rw [mem_ready]
        refine ⟨hl, ops[i], Array.getElem?_eq_getElem hi, fun e he hbn => ?_⟩
        have hlt := hdown i _ (Array.getElem?_eq_getElem hi) e he hbn
        have := ih e.on hlt (by omega)
        have h2 : e.on < L.size := by omega
        simp only [Array.getD, h2, dif_pos] at this ⊢
        exact this
      rw [hr] at hm; cases hm

theorem wpAny_inv {Inv : Array Bool → Act → World → Prop} (hdown : ∀ (i : Nat) (o : Oper), ops[i]? = some o → ∀ e ∈ o.after, Region.binds md e = true → e.on < i)
    (hsz : ∀ L a w, Inv L a w → L.size = ops.size)
    (hdone : ∀ L a w, Inv L a w → (∀ i, i < ops.size → L.getD i true = true) → Q .normal a w)
    (hstep : ∀ L a w i o, Inv L a w → ops[i]? = some o → L.getD i true = false → (∀ e ∈ o.after, Region.binds md e = true → L.getD e.on false = true) → wpOp P ops Q i (Inv (L.setIfInBounds i true)) a w) :
    ∀ fuel L a w, Inv L a w → L.toList.countP (fun b => !b) ≤ fuel → wpAny P md ops Q fuel L a w := by
  intro fuel
  induction fuel with
  | zero =>
    intro L a w hI hc
    have hall : ∀ b ∈ L.toList, b = true := by
      intro b hb
      have h0 : L.toList.countP (fun b => !b) = 0 := by omega
      rw [List.countP_eq_zero] at h0
      have := h0 b hb
      simpa using this
    have hr : Region.ready md ops L = [] := by
      rw [List.eq_nil_iff_forall_not_mem]
      intro i hi
      rw [mem_ready] at hi
      obtain ⟨h1, o, ho, _⟩ := hi
      have hlt : i < L.size := by rw [hsz L a w hI]; exact (Array.getElem?_eq_some_iff.1 ho).1
      have h2 : L[i] = true := hall _ (by simp)
      simp only [Array.getD, hlt, dif_pos] at h1
      rw [show L.getInternal i hlt = L[i] from rfl, h2] at h1
      cases h1
    exact ⟨hr, hdone L a w hI (all_listed hdown L (hsz L a w hI) hr)⟩
  | succ fuel ih =>
    intro L a w hI hc
    refine ⟨fun hr => hdone L a w hI (all_listed hdown L (hsz L a w hI) hr), fun i hi => ?_⟩
    rw [mem_ready] at hi
    obtain ⟨h1, o, ho, hdep⟩ := hi
    have hlt : i < L.size := by rw [hsz L a w hI]; exact (Array.getElem?_eq_some_iff.1 ho).1
    have h1' : L[i] = false := by
      have h2 := h1
      simp only [Array.getD, hlt, dif_pos] at h2
      exact h2
    refine wpOp_mono (fun a' w' h => ih _ a' w' h ?_) (hstep L a w i o hI ho h1 hdep)
    rw [Array.toList_setIfInBounds, List.countP_set (by simpa using hlt)]
    have hp : 0 < L.toList.countP (fun b => !b) := by
      rw [List.countP_pos_iff]
      exact ⟨L[i], by simp, by rw [h1']; rfl⟩
    have e : L.toList[i]'(by simpa using hlt) = false := by simpa using h1'
    rw [e]
    simp only [Bool.not_false, Bool.not_true, if_true, Bool.false_eq_true, if_false]
    omega

theorem wp_region_inv {id : Nat} {a : Act} {w : World} {Inv : Array Bool → Act → World → Prop} (hm : P.follows .mixedOrders = true)
    (hdown : ∀ (i : Nat) (o : Oper), ops[i]? = some o → ∀ e ∈ o.after, Region.binds .any e = true → e.on < i) (h0 : Inv (Array.replicate ops.size false) a w.drew)
    (hsz : ∀ L a w, Inv L a w → L.size = ops.size)
    (hdone : ∀ L a w, Inv L a w → (∀ i, i < ops.size → L.getD i true = true) → Q .normal a w)
    (hstep : ∀ L a w i o, Inv L a w → ops[i]? = some o → L.getD i true = false → (∀ e ∈ o.after, Region.binds .any e = true → L.getD e.on false = true) → wpOp P ops Q i (Inv (L.setIfInBounds i true)) a w) :
    (Code.region id ops true).wp P Q a w :=
  wp_region_any hm (wpAny_inv hdown hsz hdone hstep _ _ _ _ h0 (by
    have := List.countP_le_length (p := fun b : Bool => !b) (l := (Array.replicate ops.size false).toList)
    simpa using this))

theorem down_of (h : ((List.range ops.size).all fun i => match ops[i]? with
    | some o => o.after.toList.all fun e => !Region.binds .any e || decide (e.on < i)
    | none => true) = true) : ∀ (i : Nat) (o : Oper), ops[i]? = some o → ∀ e ∈ o.after, Region.binds .any e = true → e.on < i := by
  intro i o ho e he hbn
  rw [List.all_eq_true] at h
  have h1 := h i (List.mem_range.2 (Array.getElem?_eq_some_iff.1 ho).1)
  rw [ho] at h1
  simp only [List.all_eq_true] at h1
  have h2 := h1 e (by simpa using he)
  rw [hbn] at h2
  simpa using h2
/-- An operation without a guard runs. -/
theorem wpOp_run {i : Nat} {o : Oper} {K : Act → World → Prop} {a : Act} {w : World} (ho : ops[i]? = some o) (hg : o.guard = none) (h : o.wp P a w K Q) : wpOp P ops Q i K a w := by
  unfold wpOp
  rw [ho]
  have hw : Region.wanted o (yielded ops a.tmps) = true := by simp [Region.wanted, hg]
  simp only [hw, if_true]
  exact .inl h
/-- An operation that its guard lets run. -/
theorem wpOp_guard {i : Nat} {o : Oper} {K : Act → World → Prop} {a : Act} {w : World} (ho : ops[i]? = some o) (hw : Region.wanted o (yielded ops a.tmps) = true) (h : o.wp P a w K Q) : wpOp P ops Q i K a w := by
  unfold wpOp
  rw [ho]
  simp only [hw, if_true]
  exact .inl h
end
end Go.Proofs.Ytdhofaiogbpjpaa
