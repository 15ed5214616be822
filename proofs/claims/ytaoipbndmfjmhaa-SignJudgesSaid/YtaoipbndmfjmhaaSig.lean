/- A signature as the program has it; whole structs loaded and stored within a fence. -/
import Derived.Test.YtaoipbndmfjmhaaPath
import Derived.Test.YtaoipbndmfjmhaaDigits
namespace Go.Proofs.Ytaoipbndmfjmhaa
open Go.RowKit Go.Joins

/-- A signature as the program has it. -/
def sgF (q : Int) (f : Nat → BitVec 64) (p : Value) (i : Nat) : Value := if i = 0 then .int .i64 q else if i = 19 then p else U64 (f (i - 1))
def sgA (q : Int) (f : Nat → BitVec 64) (p : Value) : Array Value := ((List.range 20).map (sgF q f p)).toArray
theorem sgA_size (q : Int) (f : Nat → BitVec 64) (p : Value) : (sgA q f p).size = 20 := by simp [sgA]
theorem sgA_get (q : Int) (f : Nat → BitVec 64) (p : Value) (i : Nat) (h : i < 20) : (sgA q f p)[i]? = some (sgF q f p i) := by simp [sgA, h]
theorem sgA_one (q : Int) (f : Nat → BitVec 64) (p : Value) (hp : p.oneCell' = true) : (sgA q f p).all (·.oneCell') = true := by
  simp only [sgA, List.all_toArray, List.all_eq_true, List.mem_map]
  rintro v ⟨i, _, rfl⟩
  unfold sgF
  split
  · rfl
  · split
    · exact hp
    · rfl
theorem sgA_key (q : Int) (f : Nat → BitVec 64) (p : Value) : (sgA q f p)[0]? = some (.int .i64 q) := sgA_get q f p 0 (by decide)
theorem sgA_path (q : Int) (f : Nat → BitVec 64) (p : Value) : (sgA q f p)[19]? = some p := sgA_get q f p 19 (by decide)
theorem sgA_chain (q : Int) (f : Nat → BitVec 64) (p : Value) (i : Nat) (h : i < 18) : (sgA q f p)[1 + i]? = some (U64 (f i)) := by
  rw [sgA_get q f p (1 + i) (by omega)]
  unfold sgF
  rw [if_neg (by omega), if_neg (by omega), Nat.add_sub_cancel_left]
theorem sgA_set (q : Int) (f : Nat → BitVec 64) (p p' : Value) : (sgA q f p).setIfInBounds 19 p' = sgA q f p' := by
  apply Array.ext_getElem?
  intro i
  rw [Array.getElem?_setIfInBounds, sgA_size]
  by_cases h : i < 20
  · rw [sgA_get q f p i h, sgA_get q f p' i h]
    by_cases e : 19 = i
    · subst e; simp [sgF]
    · rw [if_neg e]
      have e' : i ≠ 19 := fun h => e h.symm
      simp only [sgF, if_neg e']
  · rw [if_neg (by omega), Array.getElem?_eq_none (by rw [sgA_size]; omega), Array.getElem?_eq_none (by rw [sgA_size]; omega)]
theorem info_sig : (Try.prog.info? 34).map (·.size) = some 20 := by kernel_rfl
theorem build_sig (q : Int) (f : Nat → BitVec 64) (w : World) : Sem.run Try.prog (Instr.build 34 #[(0, .int .i64 q), (1, .agg (rowW f 18))]) w = Result.ok (.agg (sgA q f (.slice none 0 0))) w := by kernel_rfl
theorem fold_sig (q : Int) (f : Nat → BitVec 64) : Array.foldl (fun (cs : Array Value) (x : Value × Nat) => cs.setIfInBounds (1 + x.snd) x.fst) #[.int .i64 q, .int .u64 0, .int .u64 0, .int .u64 0, .int .u64 0, .int .u64 0, .int .u64 0, .int .u64 0, .int .u64 0, .int .u64 0, .int .u64 0, .int .u64 0, .int .u64 0, .int .u64 0, .int .u64 0, .int .u64 0, .int .u64 0, .int .u64 0, .int .u64 0, .slice none 0 0] (rowW f 18).zipIdx 0 18 = sgA q f (.slice none 0 0) := by kernel_rfl
theorem zero_sig : ∀ w : World, (zeroValue 34).run Try.prog w = .ok (.agg #[.int .i64 0, .int .u64 0, .int .u64 0, .int .u64 0, .int .u64 0, .int .u64 0, .int .u64 0, .int .u64 0, .int .u64 0, .int .u64 0, .int .u64 0, .int .u64 0, .int .u64 0, .int .u64 0, .int .u64 0, .int .u64 0, .int .u64 0, .int .u64 0, .int .u64 0, .slice none 0 0]) w := fun _ => by kernel_rfl

/-- A whole struct or array is stored, and loaded, within a fence. -/
theorem wpListIn_store_rowG {F : Fence} {n : Nat} {P : Program} {ops : Array Oper} {rest : List Oper} {o : Oper} {a : Act} {w : World} {Q : Exit → Act → World → Prop} (hw : Region.wanted o (yielded ops a.tmps) = true) (ty : TypeId) (x y : Operand) (ho : o.op = .store ty x y)
    (hd : o.dst = none) (g : Nat) (cells : Array Value) (hx : a.eval x = .pointer (some ⟨g, 0, none⟩)) (hy : a.eval y = .agg cells)
    (t : TypeId) (old : Array Value) (hg : BoxN w g t old) (hi : (P.info? ty).map (·.size) = some cells.size)
    (hold : old.size = cells.size) (h1 : cells.all (·.oneCell') = true)
    (h : wpListIn F n P ops Q rest a (w.setRow g cells)) : wpListIn F n P ops Q (o :: rest) a w := by
  refine wpListIn_step fun K hK' => ?_
  rw [hw, if_pos rfl]
  unfold Oper.wpIn
  refine ⟨?_, ?_⟩
  · simp [Oper.about, ho]
  · rw [Oper.semAt_plain F _ _ (by rw [ho]; intro c hc'; cases hc')]
    simp only [execOp, ho, hx, hy, Instr.storeAt, Instr.sureAddr, Sem.run_bind, Sem.run_pure, Result.andThen_ok, run_storeVar_row w g t ty old cells hg hi hold h1]
    refine hK' _ _ ?_
    rw [hd]
    exact h
theorem wpListIn_load_rowN {F : Fence} {n : Nat} {P : Program} {ops : Array Oper} {rest : List Oper} {o : Oper} {a : Act} {w : World} {Q : Exit → Act → World → Prop} (hw : Region.wanted o (yielded ops a.tmps) = true) (ty : TypeId) (x : Operand) (ho : o.op = .load ty x)
    (g : Nat) (hx : a.eval x = .pointer (some ⟨g, 0, none⟩)) (t : TypeId) (cs : Array Value) (d : TypeDesc) (hg : BoxN w g t cs)
    (hu : P.underlying ty = some d) (hd : (match d with | .struct _ | .array _ _ => true | _ => false) = true) (hi : (P.info? ty).map (·.size) = some cs.size)
    (h : wpListIn F n P ops Q rest (a.put o.dst (.agg cs)) w) : wpListIn F n P ops Q (o :: rest) a w := by
  refine wpListIn_step fun K hK' => ?_
  rw [hw, if_pos rfl]
  unfold Oper.wpIn
  refine ⟨?_, ?_⟩
  · simp [Oper.about, ho]
  · rw [Oper.semAt_plain F _ _ (by rw [ho]; intro c hc'; cases hc')]
    simp only [execOp, ho, hx, Instr.loadAt, Instr.sureAddr, Sem.run_bind, Sem.run_pure, Result.andThen_ok, run_loadVar_row w g t ty cs (0, 0) d hg hu hd hi]
    exact hK' _ _ h
theorem results_cell_tmp {P : Program} {fn : Func} {p u : Tmp} {ty : TypeId} (h : fn.results = #[.cell p ty, .tmp u]) (tmps : Array Value) (w : World) (g : Nat) (t : TypeId) (cs : Array Value) (d : TypeDesc)
    (hp : tmps.getD p undef = .pointer (some ⟨g, 0, none⟩)) (hg : BoxN w g t cs)
    (hu : P.underlying ty = some d) (hd : (match d with | .struct _ | .array _ _ => true | _ => false) = true) (hi : (P.info? ty).map (·.size) = some cs.size) :
    (results fn tmps).run P w = .ok (.tuple #[.agg cs, tmps.getD u undef]) w := by
  have hp' : tmps[p]?.getD undef = .pointer (some ⟨g, 0, none⟩) := by simpa using hp
  simp [results, h, hp', asAddr, run_loadVar_row w g t ty cs (0, 0) d hg hu hd hi]
theorem wpListIn_buildG {F : Fence} {n : Nat} {P : Program} {ops : Array Oper} {rest : List Oper} {o : Oper} {a : Act} {w : World} {Q : Exit → Act → World → Prop} (hw : Region.wanted o (yielded ops a.tmps) = true) (ty : TypeId) (parts : Array (Nat × Operand)) (ho : o.op = .build ty parts)
    (v : Value) (hrun : (Instr.build ty (parts.map fun (i, x) => (i, a.eval x))).run P w = .ok v w)
    (h : wpListIn F n P ops Q rest (a.put o.dst v) w) : wpListIn F n P ops Q (o :: rest) a w := by
  refine wpListIn_step fun K hK' => ?_
  rw [hw, if_pos rfl]
  unfold Oper.wpIn
  refine ⟨?_, ?_⟩
  · simp [Oper.about, ho]
  · rw [Oper.semAt_plain F _ _ (by rw [ho]; intro c hc'; cases hc')]
    simp only [execOp, ho, Sem.run_bind, Sem.run_pure, Result.andThen_ok, hrun]
    exact hK' _ _ h
end Go.Proofs.Ytaoipbndmfjmhaa
