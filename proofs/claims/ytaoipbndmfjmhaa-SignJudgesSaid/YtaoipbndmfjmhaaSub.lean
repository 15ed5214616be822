/- A part of a block loaded whole; equality of arrays of words. -/
import Derived.Test.YtaoipbndmfjmhaaEnc
import Derived.Test.YtaoipbndmfjmhaaInvP
import Derived.ChangeKeysEq
namespace Go.Proofs.Ytaoipbndmfjmhaa
open Go.RowKit Go.Joins

theorem run_loadVar_sub {P : Program} (w : World) (g off : Nat) (ty : TypeId) (cs : Array Value) (d : TypeDesc) (hc : ∀ j v, cs[j]? = some v → w.cell? ⟨g, off + j, none⟩ = some v)
    (hu : P.underlying ty = some d) (hd : (match d with | .struct _ | .array _ _ => true | _ => false) = true) (hi : (P.info? ty).map (·.size) = some cs.size) :
    (loadVar ty ⟨g, off, none⟩).run P w = .ok (.agg cs) w := by
  have hl : (loadCells ⟨g, off, none⟩ cs.toList.length).run P w = .ok cs.toList.toArray w :=
    run_loadCells_list (P := P) w ⟨g, off, none⟩ cs.toList (fun j v hv => by
      rw [Addr.add_lit]
      exact hc j v (by simpa using hv))
  cases hq : P.info? ty with
  | none => simp [hq] at hi
  | some i =>
    have hs : i.size = cs.size := by simpa [hq] using hi
    have hagg : (isAgg ty).run P w = .ok true w := by
      unfold isAgg
      rw [Sem.run_bind, run_underlying hu w]
      cases d <;> simp_all
    simp only [Array.length_toList, Array.toArray_toList] at hl
    simp [loadVar, Sem.run_bind, hagg, sizeOf, typeInfo, hq, hs, hl]
/-- The chains of a signature loaded. -/
theorem load_chain {W : World} {g : Nat} {t : TypeId} {q : Int} {f : Nat → BitVec 64} {p : Value} (h : BoxN W g t (sgA q f p)) : (loadVar 31 ⟨g, 1, none⟩).run Try.prog W = .ok (.agg (rowW f 18)) W :=
  run_loadVar_sub W g 1 31 (rowW f 18) _ (fun j v hv => by
    have hj : j < 18 := by
      have := (Array.getElem?_eq_some_iff.1 hv).1
      rwa [rowW_size] at this
    rw [rowW_get _ _ _ hj] at hv
    cases hv
    rw [h.cell, sgA_chain q f p j hj]) Try.underlying31 rfl (by rw [rowW_size]; exact info_tW)
theorem step_load_sub {P : Program} {ops : Array Oper} {o : Oper} {a : Act} {w : World} {K : Act → World → Prop} {Q : Exit → Act → World → Prop} {E : Prop} (hw : Region.wanted o (yielded ops a.tmps) = true) (ty : TypeId) (x : Operand) (ho : o.op = .load ty x)
    (p : Addr) (hx : a.eval x = .pointer (some p)) (v : Value) (hl : (loadVar ty p).run P w = .ok v w) (h : K (a.put o.dst v) w) : if Region.wanted o (yielded ops a.tmps) = true then Oper.wp P o a w K Q else E := by
  rw [hw, if_pos rfl]
  unfold Oper.wp execOp
  simp only [ho, hx, Instr.loadAt, Instr.sureAddr, Sem.run_bind, Sem.run_pure, Result.andThen_ok, hl]
  exact h
theorem wpList_load_sub {P : Program} {ops : Array Oper} {rest : List Oper} {o : Oper} {a : Act} {w : World} {Q : Exit → Act → World → Prop} (hgd : Region.wanted o (yielded ops a.tmps) = true) (ty : TypeId) (x : Operand) (ho : o.op = .load ty x)
    (p : Addr) (hx : a.eval x = .pointer (some p)) (v : Value) (hl : (loadVar ty p).run P w = .ok v w)
    (h : wpList P ops Q rest (a.put o.dst v) w) : wpList P ops Q (o :: rest) a w := by
  refine wpList_step fun K hK => ?_
  exact step_load_sub hgd ty x ho p hx v hl (hK _ _ h)

/-- Arrays of words are equal just where all their elements are. -/
theorem part_W (f : Nat → BitVec 64) (i : Nat) (h : i < 18) (w : World) : (part 22 (rowW f 18) (i * 1)).run Try.prog w = .ok (U64 (f i)) w := by
  have := rowW_get f 18 i h
  rw [Nat.mul_one]
  simp [part, go_sem, this]
theorem items_W (f g : Nat → BitVec 64) (d : Nat) (w : World) : ∀ is : List Nat, (∀ i ∈ is, i < 18) → (Op.eqItems (d + 1) 22 1 (rowW f 18) (rowW g 18) is).run Try.prog w = .ok (is.all fun i => f i == g i) w
  | [], _ => rfl
  | i :: is, h => by
    have hi := h i List.mem_cons_self
    have ih := items_W f g d w is fun j hj => h j (List.mem_cons_of_mem _ hj)
    have he : ((f i).toNat : Int) = ((g i).toNat : Int) ↔ f i = g i := ⟨fun e => BitVec.eq_of_toNat_eq (by omega), fun e => by rw [e]⟩
    simp only [Op.eqItems, Sem.run_bind, part_W f i hi, part_W g i hi, Result.andThen_ok, run_equalIn_int w d 22 .u64 .u64 _ _ Try.underlying22, List.all_cons]
    by_cases e : f i = g i
    · rw [e]; simp [ih]
    · have e1 : ((((f i).toNat : Int) == ((g i).toNat : Int))) = false := by simp only [beq_eq_false_iff_ne, ne_eq, he]; exact e
      have e2 : (f i == g i) = false := by simpa using e
      rw [e1, e2]; simp
theorem equal_W (f g : Nat → BitVec 64) (w : World) : (Op.equal 31 (.agg (rowW f 18)) (.agg (rowW g 18))).run Try.prog w = .ok (decide (wds 18 f = wds 18 g)) w := by
  obtain ⟨i0, hi, _⟩ := info_parts infoQ
  unfold Op.equal
  rw [show Op.maxDepth = 9999 + 1 from rfl, run_equalIn_array w 9999 _ _ Try.underlying31 hi, show Try.prog.cellsOf 22 = 1 by kernel_rfl, show 9999 = 9998 + 1 from rfl, items_W f g 9998 w _ (fun i h => List.mem_range.1 h)]
  congr 1
  rw [Bool.eq_iff_iff, List.all_eq_true, decide_eq_true_iff]
  constructor
  · intro h
    exact wds_congr fun i hi => by simpa using h i (List.mem_range.2 hi)
  · intro h i hi
    have h1 := wds_get 18 f i (List.mem_range.1 hi)
    rw [h, wds_get 18 g i (List.mem_range.1 hi)] at h1
    simpa using (Option.some.inj h1).symm
end Go.Proofs.Ytaoipbndmfjmhaa
