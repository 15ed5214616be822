/- A region that draws its order within a fence, walked by an invariant. -/
import Derived.Test.YtaoipbndmfjmhaaHandG
namespace Go.Proofs.Ytaoipbndmfjmhaa
open Go.RowKit

section
variable {F : Fence} {n : Nat} {P : Program} {md : Region.Mode} {ops : Array Oper} {Q : Exit → Act → World → Prop}

theorem all_listedI (hdown : ∀ (i : Nat) (o : Oper), ops[i]? = some o → ∀ e ∈ o.after, e.on < i) (L : Array Bool) (hsz : L.size = ops.size) (hr : Region.ready md ops L = []) :
    ∀ i, i < ops.size → L.getD i true = true := by
  intro i
  induction i using Nat.strongRecOn with
  | _ i ih =>
    intro hi
    cases hl : L.getD i true with
    | true => rfl
    | false =>
      have hm : i ∈ Region.ready md ops L := by
        rw [mem_ready]
        refine ⟨hl, ops[i], Array.getElem?_eq_getElem hi, fun e he _ => ?_⟩
        have hlt := hdown i _ (Array.getElem?_eq_getElem hi) e he
        have := ih e.on hlt (by omega)
        have h2 : e.on < L.size := by omega
        simp only [Array.getD, h2, dif_pos] at this ⊢
        exact this
      rw [hr] at hm; cases hm

theorem wpAnyIn_inv {Inv : Array Bool → Act → World → Prop} (hdown : ∀ (i : Nat) (o : Oper), ops[i]? = some o → ∀ e ∈ o.after, e.on < i)
    (hsz : ∀ L a w, Inv L a w → L.size = ops.size)
    (hdone : ∀ L a w, Inv L a w → (∀ i, i < ops.size → L.getD i true = true) → Q .normal a w)
    (hstep : ∀ L a w i o, Inv L a w → ops[i]? = some o → L.getD i true = false → (∀ e ∈ o.after, Region.binds md e = true → L.getD e.on false = true) → wpOpIn F n P ops Q i (Inv (L.setIfInBounds i true)) a w) :
    ∀ fuel L a w, Inv L a w → L.toList.countP (fun b => !b) ≤ fuel → wpAnyIn F n P md ops Q fuel L a w := by
  intro fuel
  induction fuel with
  | zero =>
    intro L a w hI hc
    have hall : ∀ b ∈ L.toList, b = true := by
      intro b hb
      have h0 : L.toList.countP (fun b => !b) = 0 := by omega
      rw [List.countP_eq_zero] at h0
      have := h0 b hb
      simpa using this
    have hr : Region.ready md ops L = [] := by
      rw [List.eq_nil_iff_forall_not_mem]
      intro i hi
      rw [mem_ready] at hi
      obtain ⟨h1, o, ho, _⟩ := hi
      have hlt : i < L.size := by rw [hsz L a w hI]; exact (Array.getElem?_eq_some_iff.1 ho).1
      have h2 : L[i] = true := hall _ (by simp)
      simp only [Array.getD, hlt, dif_pos] at h1
      rw [show L.getInternal i hlt = L[i] from rfl, h2] at h1
      cases h1
    exact ⟨hr, hdone L a w hI (all_listedI hdown L (hsz L a w hI) hr)⟩
  | succ fuel ih =>
    intro L a w hI hc
    refine ⟨fun hr => hdone L a w hI (all_listedI hdown L (hsz L a w hI) hr), fun i hi => ?_⟩
    rw [mem_ready] at hi
    obtain ⟨h1, o, ho, hdep⟩ := hi
    have hlt : i < L.size := by rw [hsz L a w hI]; exact (Array.getElem?_eq_some_iff.1 ho).1
    have h1' : L[i] = false := by
      have h2 := h1
      simp only [Array.getD, hlt, dif_pos] at h2
      exact h2
    refine wpOpIn_mono (fun a' w' h => ih _ a' w' h ?_) (hstep L a w i o hI ho h1 hdep)
    rw [Array.toList_setIfInBounds, List.countP_set (by simpa using hlt)]
    have hp : 0 < L.toList.countP (fun b => !b) := by
      rw [List.countP_pos_iff]
      exact ⟨L[i], by simp, by rw [h1']; rfl⟩
    have e : L.toList[i]'(by simpa using hlt) = false := by simpa using h1'
    rw [e]
    simp only [Bool.not_false, Bool.not_true, if_true, Bool.false_eq_true, if_false]
    omega
theorem down_ofI (h : ((List.range ops.size).all fun i => match ops[i]? with
    | some o => o.after.toList.all fun e => decide (e.on < i)
    | none => true) = true) : ∀ (i : Nat) (o : Oper), ops[i]? = some o → ∀ e ∈ o.after, e.on < i := by
  intro i o ho e he
  rw [List.all_eq_true] at h
  have h1 := h i (List.mem_range.2 (Array.getElem?_eq_some_iff.1 ho).1)
  rw [ho] at h1
  simp only [List.all_eq_true, decide_eq_true_eq] at h1
  exact h1 e (by simpa using he)
end
end Go.Proofs.Ytaoipbndmfjmhaa
