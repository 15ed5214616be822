/- What the statements of this seat share: the end of a law, what came in gives, by trees. -/
import Derived.Test.YtdhofaiogbpjpaaRows
import Derived.Test.YtdhofaiogbpjpaaSzv
import Derived.Test.YtdhofaiogbpjpaaRow
import Derived.Test.YtdhofaiogbpjpaaMod
import Derived.ProofKit
import Derived.OpenShut
import Derived.WideShapes
import Derived.Deep.Slices
import Derived.Deep.DeepHandedRow
import Derived.Deep.DeepWitnessRowRef
import Derived.Deep.DeepLaidRun
import Derived.LaidMore
import Derived.Stop.LaidErr
namespace Go.Proofs.Ytdhofaiogbpjpaa
open Go.ChangeShapes Go.WideShapes Go.ChangeAt Go.RowKit Go.Joins

section
variable {H : Type} {enc : TypeId × Value → H} {P : Program}

/-- Arguments read as they did where nothing below has turned. -/
theorem trodAll_below (hl : laidOutB P = true) {W W' : World} (hb : Below W.heap.size W W') : ∀ {ts : List TypeId} {vs : List Value} {ds : List (DataW H)} {ps : List MemPlace},
    (ts.all fun t => P.readableRec t && decide (t < P.types.size)) = true → DataW.TrodAll enc P W 0 (fun _ => true) true ts vs ds ps → (∀ x ∈ ps, x.block < W.heap.size) →
    DataW.TrodAll enc P W' 0 (fun b => decide (b < W.heap.size)) true ts vs ds ps
  | [], _, _, _, _, h, _ => by
    obtain ⟨rfl, rfl, rfl⟩ := trodAll_nil h
    exact trodAll_mk0
  | t :: ts, _, _, _, hr, h, hlt => by
    obtain ⟨v0, vs0, d0, ds0, p0, q0, rfl, rfl, rfl, h0, r0⟩ := trodAll_cons h
    simp only [List.all_cons, Bool.and_eq_true] at hr
    exact trodAll_cons_mk (Below.trod hl hr.1.1 (of_decide_eq_true hr.1.2) h0 hb (fun x hx => hlt x (List.mem_append_left _ hx))) (trodAll_below hl hb hr.2 r0 (fun x hx => hlt x (List.mem_append_right _ hx)))

/-- THE END OF A LAW: it returned true, and nothing that was there has turned. -/
theorem law_end (hl : laidOutB P = true) {f : Func} {s : ChangeSpec} {t : TypeId} {W W' : World} {args : Array Value} {ds gs : List (DataW H)} {before : List MemPlace}
    (hs : s.vars = []) (hfn : s.fn H (ds ++ gs) = { results := [.lit (.bool true)], args := ds }) (hres : f.resultTypes = #[t]) (ht : P.underlying t = some .bool)
    (hr : (f.params.toList.all fun t => P.readableRec t && decide (t < P.types.size)) = true)
    (hW : DataW.Whole enc P f.params.toList s.vars false W args.toList ds gs before) (hb : Below W.heap.size W W') :
    ∃ v, Ending.returned (.bool true) = .returned v ∧ s.post enc P f false true false false W args v W' := by
  have hW' := hW
  obtain ⟨p, q, hA, hV, hbe, hfz, hnd⟩ := hW
  rw [hs] at hV
  obtain ⟨rfl, rfl⟩ := trodVars_none hV
  refine ⟨_, rfl, ds, [], before, [], p, [], hW', ?_, ?_, ?_, hb.frame _, fun h => by cases h⟩
  · rw [hfn, hres]
    exact trodAll_mk1 (shut_bool ht _)
  · rw [hfn]
    refine trodAll_below hl hb hr hA fun x hx => hW'.lt x (by rw [hbe]; simpa using hx)
  · rw [hs, hfn]
    exact rfl
end

theorem own : ownKnob Try.prog.godebug = none := by kernel_rfl
theorem laidOut : laidOutB Try.prog = true := by kernel_rfl

namespace Me
open Tre
/-- What came in is a tree of its type. -/
theorem open_tree {H : Type} {enc : TypeId × Value → H} {W : World} {t : TypeId} {v : Value} {d : DataW H} {p : List MemPlace} {n : Nat} {fs : List Ty} (hs : Tre.shape Try.prog n t = some fs) (h : DataW.Trod enc Try.prog W 0 (fun _ => true) true t v d p) :
    ∃ ts, LiesAll (fun _ => True) W ts v.cells.toList ∧ OfAll fs ts := by
  obtain ⟨fuel, hf⟩ := h
  exact trees_in n fuel t fs _ _ hs hf
def kRg : Knd Rg := ⟨3, fun x => [.leaf (.int .i64 x.p), .leaf (.int .i64 x.b), .leaf (.int .i64 x.s)], fun _ => rfl, by decide⟩
abbrev tRg : List Ty := [.int .i64, .int .i64, .int .i64]
theorem iRg (ts : List Tr) (h : OfAll tRg ts) : ∃ x, ts = kRg.enc x := by
  obtain ⟨t0, us, rfl, h0, h⟩ := h.cons_inv
  obtain ⟨t1, us, rfl, h1, h⟩ := h.cons_inv
  obtain ⟨t2, us, rfl, h2, h⟩ := h.cons_inv
  obtain rfl := h.nil_inv
  obtain ⟨x0, rfl⟩ := h0.int_inv
  obtain ⟨x1, rfl⟩ := h1.int_inv
  obtain ⟨x2, rfl⟩ := h2.int_inv
  exact ⟨⟨x0, x1, x2⟩, rfl⟩
theorem isG_of_lies {W : World} {L : List Rg} {A : Option Addr} {m cap : Nat} (h : Lies (fun _ => True) W (rowOf kRg L) (.slice A m cap)) : isG A L W := fun hne => by
  obtain ⟨b, off, e, -, hb, hel⟩ := h.elems hne
  refine ⟨b, off, e, hb, fun k x hk => ?_⟩
  obtain ⟨us, hus, hc, hl⟩ := hel k x hk
  obtain ⟨r0, us, rfl, h0, hl⟩ := LiesAll.cons_inv hl
  obtain ⟨r1, us, rfl, h1, hl⟩ := LiesAll.cons_inv hl
  obtain ⟨r2, us, rfl, h2, hl⟩ := LiesAll.cons_inv hl
  obtain rfl := h0.is_leaf
  obtain rfl := h1.is_leaf
  obtain rfl := h2.is_leaf
  exact ⟨hc 0 _ rfl, hc 1 _ rfl, hc 2 _ rfl⟩
theorem shape_regs : Tre.shape Try.prog 4 25 = some [.row tRg] := by kernel_rfl
theorem shape_mod : Tre.shape Try.prog 12 24 = some tModule := by kernel_rfl
set_option maxRecDepth 100000 in
/-- What a slice of regions that came in gives. -/
theorem open_regs {H : Type} {enc : TypeId × Value → H} {W : World} {base : Nat} {v1 : Value} {d1 : DataW H} {p1 : List MemPlace} (hval : Value.okWide Try.prog W .any base 25 v1) (h1 : DataW.Trod enc Try.prog W 0 (fun _ => true) true 25 v1 d1 p1) :
    ∃ (A : Option Addr) (cap : Nat) (L : List Rg), v1 = .slice A L.length cap ∧ isG A L W ∧ Bd L ∧ L.length ≤ maxLen := by
  obtain ⟨a1, len, cap, rfl⟩ := okWide_slice Try.underlying25 hval
  obtain ⟨ts, hl, ho⟩ := open_tree shape_regs h1
  obtain ⟨t, us, rfl, h0, ho⟩ := ho.cons_inv
  obtain rfl := ho.nil_inv
  obtain ⟨L, rfl⟩ := Of.row_inv (k := kRg) rfl iRg h0
  obtain ⟨hm, heach⟩ := Of.row_each (k := kRg) rfl h0
  obtain ⟨v, us, hv, hlies, -⟩ := LiesAll.cons_inv hl
  have e : v = .slice a1 len cap := by
    simp [Value.cells] at hv
    exact hv.1.symm
  subst e
  obtain ⟨A', cap', e⟩ := hlies.rowOf_len
  simp only [Value.slice.injEq] at e
  obtain ⟨rfl, rfl, rfl⟩ := e
  refine ⟨_, _, L, rfl, isG_of_lies hlies, fun x hx => ?_, hm⟩
  have hx' := heach x hx
  have g := fun (i : Nat) (n : Int) (h : (kRg.enc x)[i]? = some (.leaf (.int .i64 n))) (hf : tRg[i]? = some (.int .i64)) => bounds_i64 (hx'.each i _ _ hf h).int_wf
  exact ⟨g 0 x.p rfl rfl, g 1 x.b rfl rfl, g 2 x.s rfl rfl⟩
theorem isP_of_lies {W : World} {L : List PartS} {A : Option Addr} {m cap : Nat} (h : Lies (fun _ => True) W (rowOf kPart L) (.slice A m cap)) : ∃ Ps : List Pt, Ps.length = L.length ∧ Ps.map Pt.z = L.map PartS.mem ∧ isP A Ps W := by
  by_cases hne : L = []
  · subst hne; exact ⟨[], rfl, rfl, isP.nil _ _⟩
  obtain ⟨b, off, e, -, hb, hel⟩ := h.elems hne
  have hall : ∀ k, k < L.length → ∃ x : Pt, (∀ y, L[k]? = some y → x.z = y.mem) ∧ ∀ (i : Nat) (v : Value), (ptC x)[i]? = some v → W.cell? ⟨b, off + k * 10 + i, none⟩ = some v := fun k hk => by
    obtain ⟨us, hus, hc, hl⟩ := hel k L[k] (List.getElem?_eq_getElem hk)
    obtain ⟨r4, r7, r8, r9, rfl, h4, h7, h8, h9⟩ := openPart hl
    obtain ⟨A4, c4, rfl⟩ := h4.rowOf_len
    obtain ⟨A7, c7, rfl⟩ := h7.rowOf_len
    obtain ⟨A8, c8, rfl⟩ := h8.rowOf_len
    obtain ⟨A9, c9, rfl⟩ := h9.rowOf_len
    refine ⟨⟨L[k].name, L[k].period, L[k].length, L[k].mem, A4, L[k].semas.length, c4, L[k].events, L[k].boards, A7, L[k].bufs.length, c7, A8, L[k].ports.length, c8, A9, L[k].procs.length, c9⟩, fun y hy => by rw [List.getElem?_eq_getElem hk] at hy; cases hy; rfl, fun i v hv => hc i v ?_⟩
    simpa [ptC] using hv
  haveI : Inhabited Pt := ⟨pz 0⟩
  obtain ⟨f, hf⟩ := Deep.choose_lt hall
  refine ⟨(List.range L.length).map f, by simp, ?_, fun _ => ⟨b, off, e, hb, fun k x hk i v hv => ?_⟩⟩
  · apply List.ext_getElem?
    intro k
    by_cases hk : k < L.length
    · simp [hk, (hf k hk).1 L[k] (List.getElem?_eq_getElem hk)]
    · simp [hk]
  · have hk' : k < L.length := by
      have := (List.getElem?_eq_some_iff.1 hk).1
      simpa using this
    simp [hk'] at hk
    subst hk
    exact (hf k hk').2 i v hv
theorem cellsMd : Try.prog.cellsOf 24 = 4 := by kernel_rfl
theorem list4 {α : Type} {l : List α} (h : l.length = 4) : ∃ a b c d, l = [a, b, c, d] := by
  match l, h with
  | [a, b, c, d], _ => exact ⟨a, b, c, d, rfl⟩
set_option maxRecDepth 100000 in
/-- What a module that came in gives. -/
theorem open_mod {H : Type} {enc : TypeId × Value → H} {W : World} {base : Nat} {v1 : Value} {d1 : DataW H} {p1 : List MemPlace} (hval : Value.okWide Try.prog W .any base 24 v1) (h1 : DataW.Trod enc Try.prog W 0 (fun _ => true) true 24 v1 d1 p1) :
    ∃ (s : ByteArray) (mem fr : Int) (A : Option Addr) (n cap : Nat) (Ps : List Pt), v1 = mdV s mem fr A n cap ∧ Ps.length = n ∧ isP A Ps W ∧ n ≤ maxLen ∧ (-9223372036854775808 ≤ mem ∧ mem ≤ 9223372036854775807) ∧ ∀ z ∈ Ps.map Pt.z, -9223372036854775808 ≤ z ∧ z ≤ 9223372036854775807 := by
  obtain ⟨cs, rfl, hsz⟩ := okWide_struct Try.underlying24 hval
  obtain ⟨ts, hl, ho⟩ := open_tree shape_mod h1
  obtain ⟨x, rfl⟩ := iModule ts ho
  obtain ⟨r3, hcs, hp⟩ := openModule hl
  obtain ⟨A, cap, rfl⟩ := hp.rowOf_len
  obtain ⟨Ps, hlen, hmap, hP⟩ := isP_of_lies hp
  have hm := ho.each 1 _ _ rfl rfl
  have hpt := ho.each 3 _ _ rfl rfl
  obtain ⟨hmx, heach⟩ := Of.row_each (k := kPart) rfl hpt
  obtain ⟨cl⟩ := cs
  simp [Value.cells] at hcs
  subst hcs
  refine ⟨x.name, x.mem, x.frame, A, x.parts.length, cap, Ps, rfl, hlen, hP, hmx, bounds_i64 hm.int_wf, fun z hz => ?_⟩
  rw [hmap] at hz
  obtain ⟨y, hy, rfl⟩ := List.mem_map.1 hz
  exact bounds_i64 ((heach y hy).each 3 _ _ rfl rfl).int_wf
end Me
end Go.Proofs.Ytdhofaiogbpjpaa
