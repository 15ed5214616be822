/- New. -/
import Derived.Test.YtdhofaiogbpjpaaMemG
import Derived.Test.YtdhofaiogbpjpaaNone
namespace Go.Proofs.Ytdhofaiogbpjpaa
open Go.RowKit Go.Joins
namespace Me
theorem wpList_copy_K {P : Program} {w : World} {ops : Array Oper} {rest : List Oper} {o : Oper} {a : Act} {Q : Exit → Act → World → Prop} (hgd : o.guard = none) (d s : Operand) (dT sT : TypeId)
    (ho : o.op = .call { callee := .builtin .copy, args := #[d, s], argTypes := #[dT, sT] }) (elem : TypeId) (hu : P.underlying dT = some (.slice elem)) (K : Nat) (hK : 0 < K) (hsz : (P.info? elem).map (·.size) = some K)
    (g dLen dCap : Nat) (sp : Option Addr) (sLen sCap : Nat) (hd : a.eval d = .slice (some ⟨g, 0, none⟩) dLen dCap) (hs : a.eval s = .slice sp sLen sCap)
    (cur : Array Value) (t : TypeId) (hg : w.heap[g]? = some (.cells cur t (0, 0))) (cs : List Value) (hn : cs.length = Nat.min sLen dLen * K)
    (hpos : cs ≠ [] → ∃ ad, sp = some ad ∧ ∀ j v, cs[j]? = some v → w.cell? (ad.add j) = some v) (hfit : cs.length ≤ cur.size) (h1 : ∀ v ∈ cs, v.oneCell' = true)
    (h : wpList P ops Q rest (a.put o.dst (goInt (Nat.min sLen dLen))) (w.setRow g (cs ++ cur.toList.drop cs.length).toArray)) : wpList P ops Q (o :: rest) a w := by
  refine wpList_plain hgd fun K' hK' => ?_
  by_cases he : cs = []
  · subst he
    have hm : Nat.min sLen dLen = 0 := by
      rcases Nat.eq_zero_or_pos (Nat.min sLen dLen) with h0 | h0
      · exact h0
      · have := Nat.mul_pos h0 hK
        simp at hn
        omega
    have e : ([] ++ cur.toList.drop ([] : List Value).length).toArray = cur := by simp
    rw [e, setRow_self w g cur t (0, 0) hg, hm] at h
    have hrun : (Builtin.copy_ #[dT, sT] o.type #[.slice (some ⟨g, 0, none⟩) dLen dCap, .slice sp sLen sCap]).run P w = .ok (goInt 0) w := by
      cases hq : P.info? elem with
      | none => simp [hq] at hsz
      | some i =>
        cases sp <;> simp [Builtin.copy_, run_underlying hu, Builtin.lenOf, Builtin.firstCells, sizeOf, typeInfo, hq, hm, storeCells, loadCells, loadCellsFrom]
    unfold Oper.wp
    simp [execOp, ho, resolve, invoke, builtin, hd, hs, hrun, Result.andThen]
    exact hK' _ _ h
  · obtain ⟨ad, rfl, hsrc⟩ := hpos he
    have hrun := run_copy_rowK (P := P) K w dT sT o.type elem g 0 dLen dCap ad sLen sCap cur t cs hu hsz hg hn hsrc (by simpa using hfit) h1
    have e : cur.toList.take 0 ++ cs ++ cur.toList.drop (0 + cs.length) = cs ++ cur.toList.drop cs.length := by simp
    rw [e] at hrun
    unfold Oper.wp
    simp [execOp, ho, resolve, invoke, builtin, hd, hs, hrun, Result.andThen]
    exact hK' _ _ h
/-- The cells of a new memory. -/
def memN (g n mem : Nat) : Array Value := ((memZ.setIfInBounds 0 (.slice (some ⟨g, 0, none⟩) n n)).setIfInBounds 1 (.bool true)).setIfInBounds 2 (.int .i64 (mem : Nat))
theorem memN_mem (g n mem : Nat) : MemC (memN g n mem) (some ⟨g, 0, none⟩) n n mem (fun _ => 0#8) := by
  have hs := memZ_size
  refine ⟨?_, ?_, ?_, ?_, fun i hi => ?_⟩ <;> unfold memN
  · simp [hs]
  · simp [hs]
  · simp [hs]
  · simp [hs]
  · rw [Array.getElem?_setIfInBounds, if_neg (by omega), Array.getElem?_setIfInBounds, if_neg (by omega), Array.getElem?_setIfInBounds, if_neg (by omega)]
    unfold memZ
    rw [List.getElem?_toArray, Nat.add_comm, List.getElem?_cons_succ, List.getElem?_cons_succ, List.getElem?_cons_succ, List.getElem?_replicate, if_pos hi]
    rfl
set_option maxRecDepth 100000 in
set_option maxHeartbeats 8000000 in
theorem new_any (A : Option Addr) (c n : Nat) (L : List Rg) (hn : L.length = n) (hc : n ≤ c) (hbd : Bd L) (mem : Nat) (hv : Vld L mem) (w : World) (hA : isG A L w) :
    Calls Try.prog 20 #[.slice A n c, .int .i64 (mem : Nat)] w fun e w' => ∃ g, e = .returned (.tuple #[.pointer (some ⟨g, 0, none⟩), .int .i64 0]) ∧ w.heap.size ≤ g ∧ MemS w.heap.size g L mem (fun _ => 0#8) w' ∧ Below w.heap.size w w' := by
  obtain ⟨i0, hi, hz0, hz1, hz2⟩ := info_parts infoG
  have hz := zero_mem
  have HV := Lib.hid (valid_any A c n L hn hc hbd mem w hA)
  rw [vldR_yes hv] at HV
  have hn6 : n ≤ 6 := by have := hv.2.1; omega
  have HA := Lib.hid hA
  have hone := cellsG_one L
  have hcl : (cellsG L).length = Nat.min n n * 3 := by rw [cellsG_len, hn]; simp
  have hcl3 : (cellsG L).length = n * 3 := by rw [cellsG_len, hn]
  have HN : Hid (∀ g, MemC (memN g n mem) (some ⟨g, 0, none⟩) n n mem (fun _ => 0#8)) := fun g => memN_mem g n mem
  have HNe : Hid (∀ g, memN g n mem = ((memZ.setIfInBounds 0 (.slice (some ⟨g, 0, none⟩) n n)).setIfInBounds 1 (.bool true)).setIfInBounds 2 (.int .i64 (mem : Nat))) := fun g => rfl
  have hZs := memZ_size
  have hZne : ¬ memZ = #[] := fun h => by
    have := memZ_size
    rw [h] at this
    simp at this
  generalize memZ = Z at *
  have HL := Lib.hid hn
  have hi3 : (Try.prog.info? 45).map (·.size) = some 3 := info_rg
  have HS : Hid (∀ W, Below w.heap.size w W → cellsG L ≠ [] → ∃ ad, A = some ad ∧ ∀ j v, (cellsG L)[j]? = some v → W.cell? (ad.add j) = some v) := fun W hW hne => (HA.out.keep hW).news (fun h => hne (by rw [List.eq_nil_of_length_eq_zero h]; rfl))
  have HG : Hid (∀ (g : Nat) (W : World), g < W.heap.size → (∀ j u, (cellsG L)[j]? = some u → W.cell? ⟨g, 0 + j, none⟩ = some u) → isG (some ⟨g, 0, none⟩) L W) := fun g W h1 h2 => isG_of_cells h1 h2
  obtain ⟨xs, hxs⟩ : ∃ xs, cellsG L = xs := ⟨_, rfl⟩
  rw [hxs] at hone hcl hcl3 HS HG
  have Hone := Lib.hid hone
  clear hA hn hxs hone hv hbd
  go_enter Try.func20, Try.ntmps20
  go_wp2_with fail
  (with_reducible refine (HV.out).mono ?_); rintro _ w1 ⟨rfl, hB1⟩
  go_wp2_with (first
    | (refine wpList_make_full _ rfl _ _ 60 rfl w1.heap.size 45 i0 _ 3 Try.underlying60 hi hz0 hz1 .i64 .i64 _ _ n rfl rfl rfl rfl (by rw [hz2]; omega) (by unfold maxLen; omega) (Nat.le_refl _) ?_; intro w2 hown2 hg2; obtain ⟨cur, hg, hcur⟩ := own_full hown2; have hlt2 := own_lt hown2 _ rfl; have hB2 : Below w1.heap.size w1 w2 := (Below.refl _ _).grown hg2 (Nat.le_refl _) (fun _ h => by cases h); have bN : BoxN w2 w1.heap.size 45 cur := hg; have bN3 := bN.alloc (.cells (((Z.setIfInBounds 0 (.slice (some ⟨w1.heap.size, 0, none⟩) n n)).setIfInBounds 1 (.bool true)).setIfInBounds 2 (.int .i64 (mem : Nat))) 63); have bM3 := BoxN.new w2 63 (((Z.setIfInBounds 0 (.slice (some ⟨w1.heap.size, 0, none⟩) n n)).setIfInBounds 1 (.bool true)).setIfInBounds 2 (.int .i64 (mem : Nat))); have hB3 := hB2.alloc hB2.size (.cells (((Z.setIfInBounds 0 (.slice (some ⟨w1.heap.size, 0, none⟩) n n)).setIfInBounds 1 (.bool true)).setIfInBounds 2 (.int .i64 (mem : Nat))) 63); have hpos := HS.out _ (hB1.trans (hB3.mono hB1.size)); have hbl := bM3.lt; have hc0 := bM3.cell 0; rw [show (((Z.setIfInBounds 0 (.slice (some ⟨w1.heap.size, 0, none⟩) n n)).setIfInBounds 1 (.bool true)).setIfInBounds 2 (.int .i64 (mem : Nat)))[0]? = some (.slice (some ⟨w1.heap.size, 0, none⟩) n n) by simp [hZs]] at hc0; clear hown2 hg2 hg bN hB2)
    | (refine wpList_copy_K rfl (.tmp 20) (.tmp 21) 60 25 rfl 45 Try.underlying60 3 (by decide) hi3 w1.heap.size n n A n c rfl rfl cur _ bN3 xs hcl hpos (by omega) Hone.out ?_))
  have hw1 := hB1.size
  have hg0 := bN3.setRow (xs ++ cur.toList.drop (n * 3)).toArray
  have hgc : ∀ (j : Nat) (u : Value), xs[j]? = some u → (xs ++ cur.toList.drop (n * 3)).toArray[j]? = some u := fun j u hj => by
    rw [List.getElem?_toArray, List.getElem?_append_left (List.getElem?_eq_some_iff.1 hj).1]
    exact hj
  have hHN := HN.out w1.heap.size
  rw [HNe.out] at hHN
  have hfin : MemS w.heap.size w2.heap.size L mem (fun _ => 0#8) ((w2.alloc (.cells (((Z.setIfInBounds 0 (.slice (some ⟨w1.heap.size, 0, none⟩) n n)).setIfInBounds 1 (.bool true)).setIfInBounds 2 (.int .i64 (mem : Nat))) 63)).setRow w1.heap.size (xs ++ cur.toList.drop (n * 3)).toArray) :=
    ⟨_, some ⟨w1.heap.size, 0, none⟩, n, bM3.farRow (by omega) _, by rw [HL.out]; exact hHN, HG.out w1.heap.size _ hg0.lt fun j u hj => by
      rw [Nat.zero_add, hg0.cell]
      exact hgc j u hj, fun a e => by cases e; exact ⟨hw1, hlt2⟩⟩
  have hBf := hB1.trans ((below_setRow hB3 (Nat.le_refl w1.heap.size) (xs ++ cur.toList.drop (n * 3)).toArray).mono hB1.size)
  have Hfin := Lib.hid hfin
  have HBf := Lib.hid hBf
  have hge : w.heap.size ≤ w2.heap.size := by omega
  clear hfin hBf hg0 hgc hHN bN3 bM3 hB3 hpos hc0
  go_ret2
  exact ⟨w2.heap.size, rfl, hge, Hfin.out, HBf.out⟩
end Me
end Go.Proofs.Ytdhofaiogbpjpaa
