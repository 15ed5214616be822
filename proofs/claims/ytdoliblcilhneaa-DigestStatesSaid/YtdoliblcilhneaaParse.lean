/- The contract of Parse. -/
import Derived.Test.YtdoliblcilhneaaRead
namespace Go.Proofs.Ytdoliblcilhneaa
open Go.RowKit Go.Joins
attribute [local go_sem] Oper.semAt_some

/-- The number of digits. -/
def numL (l : List (BitVec 8)) : BitVec 64 := l.foldl (fun d x => (d <<< 4) ||| x.setWidth 64) 0#64
theorem numL_snoc (l : List (BitVec 8)) (x : BitVec 8) : numL (l ++ [x]) = (numL l <<< 4) ||| x.setWidth 64 := by
  unfold numL; rw [List.foldl_append]; rfl
/-- What Parse returns. -/
def prs (l : List (BitVec 8)) : BitVec 64 × Int := if okL l then (numL (l.map hv), 0) else (0#64, 50)
def PrsPost (l : List (BitVec 8)) (w : World) (e : Ending) (w' : World) : Prop :=
  e = .returned (.tuple #[U64 (prs l).1, .int .i64 (prs l).2]) ∧ Below w.heap.size w w'

set_option maxRecDepth 100000 in
set_option maxHeartbeats 2000000 in
theorem parse_any (l : List (BitVec 8)) (w : World) :
    Calls Try.prog 12 #[.string (bstr l)] w (PrsPost l w) := by
  have hz := zero_dig
  have hzu : ∀ w : World, (zeroValue 23).run Try.prog w = .ok (.int .u64 0) w := fun _ => by kernel_rfl
  have HR := Lib.hid (read_any l)
  obtain ⟨Z, hZ⟩ : ∃ Z, rowB (List.replicate 16 0#8) = Z := ⟨_, rfl⟩
  rw [hZ] at hz
  have HZ := Lib.hid hZ
  have hZs : Z.size = 16 := by rw [← hZ, rowB_size]; rfl
  clear hZ
  obtain ⟨q, hq⟩ : ∃ q, okL l = q := ⟨_, rfl⟩
  obtain ⟨T, hT⟩ : ∃ T, rowB (if okL l then l.map hv else List.replicate 16 0#8) = T := ⟨_, rfl⟩
  have HR2 : Hid (∀ W : World, Calls Try.prog 27 #[.string (bstr l)] W fun e w' => e = .returned (.tuple #[.agg T, .bool q]) ∧ Below W.heap.size W w') := fun W => by
    have h := HR.out W
    unfold ReadPost at h
    rw [hT, hq] at h
    exact h
  have hTs : T.size = 16 := by
    rw [← hT, rowB_size]
    split
    · next h =>
      unfold okL at h
      simp only [Bool.and_eq_true, decide_eq_true_eq] at h
      rw [List.length_map]; exact h.1
    · rfl
  have hTo : T.all (·.oneCell') = true := by rw [← hT]; exact rowB_one _
  have hTi : (Try.prog.info? 51).map (·.size) = some T.size := by rw [hTs]; exact info_dig
  have HT := Lib.hid hT
  have HQ := Lib.hid hq
  clear hT hq HR
  cases q with
  | false =>
    have hp : Hid (prs l = (0#64, 50)) := by unfold Hid prs; rw [HQ.out]; rfl
    go_enter Try.func12, Try.ntmps12
    go_wp2_with fail
    (with_reducible refine (HR2.out _).mono ?_); rintro e w1 ⟨rfl, hb1⟩
    have b0 : BoxN (w1.alloc (.cells Z 51)) w1.heap.size 51 Z := BoxN.new w1 _ _
    have hB := below_setRow (hb1.alloc hb1.size (.cells Z 51)) hb1.size T
    go_wp2_with (refine wpList_store_rowTo rfl 51 _ _ rfl rfl w1.heap.size T rfl rfl _ Z b0 hTi (by rw [hZs, hTs]) hTo ?_)
    go_ret2
    exact ⟨by rw [hp.out]; rfl, hB⟩
  | true =>
    have hok := HQ.out
    have hp : Hid (prs l = (numL (l.map hv), 0)) := by unfold Hid prs; rw [hok]; rfl
    have hml : (l.map hv).length = 16 := by
      unfold okL at hok
      simp only [Bool.and_eq_true, decide_eq_true_eq] at hok
      rw [List.length_map]; exact hok.1
    have hTr : T = rowB (l.map hv) := by
      have := HT.out
      rw [hok, if_pos rfl] at this
      exact this.symm
    generalize l.map hv = L at hp hml hTr
    have HTr := Lib.hid hTr
    clear hTr hok HQ HT
    refine (callsIn_wide (n := 9)).1 ?_
    have hro : Fence.wide.round = none := rfl
    refine callsIn_of_wp_marks Try.func12 rfl trivial ?_ hro
    simp only [Try.ntmps12, List.size_toArray, List.length_cons, List.length_nil, Nat.reduceAdd, Nat.reduceSub, Array.replicate_succ, Array.replicate_zero, List.push_toArray, List.append_toArray, List.nil_append, List.cons_append]
    gi_wp2_with fail
    refine ⟨trivial, ?_⟩
    (with_reducible refine (callsIn_wide.2 (HR2.out _)).mono ?_); rintro e w1 ⟨rfl, hb1⟩
    have b0 : BoxN (w1.alloc (.cells Z 51)) w1.heap.size 51 Z := BoxN.new w1 _ _
    have hst := run_storeRow (P := Try.prog) b0 (by rw [hZs, hTs]) hTo
    have hB := below_setRow (hb1.alloc hb1.size (.cells Z 51)) hb1.size T
    have b1 : BoxN (((w1.alloc (.cells Z 51)).setRow w1.heap.size T).alloc (.cells #[.int .u64 0] 23)) w1.heap.size 51 T := (b0.setRow T).alloc _
    have bD : BoxN (((w1.alloc (.cells Z 51)).setRow w1.heap.size T).alloc (.cells #[.int .u64 0] 23)) (w1.heap.size + 1) 23 #[.int .u64 0] := by
      have := BoxN.new ((w1.alloc (.cells Z 51)).setRow w1.heap.size T) 23 #[.int .u64 0]
      simpa using this
    replace hB := hB.alloc hB.size (.cells #[.int .u64 0] 23)
    gi_wp2_with (refine wpListIn_load_rowG (by rfl) 51 _ rfl w1.heap.size rfl 51 T _ b1 Try.underlying51 rfl hTi ?_)
    refine ⟨trivial, ?_⟩
    clear hst hz hzu hTo hTs hZs
    generalize ((w1.alloc (.cells Z 51)).setRow w1.heap.size T).alloc (.cells #[.int .u64 0] 23) = W0 at b1 bD hB ⊢
    have hg := hb1.size
    generalize w1.heap.size = g at b1 bD hg ⊢
    (with_reducible refine (callsIn_wide.2 (each_any _ _)).mono ?_); rintro e w2 ⟨rfl, rfl⟩
    have bR := BoxN.new W0 51 T
    replace bD := bD.alloc (.cells T 51)
    replace hB := hB.alloc hB.size (.cells T 51)
    gi_wp2_with fail
    generalize W0.alloc (.cells T 51) = W5 at bD bR hB ⊢
    generalize W0.heap.size = gR at bR ⊢
    have hgl := bD.lt
    rw [HTr.out] at bR ⊢
    refine wpIn_handsQ hro (by decide) (gf := 33) (lb := #[.pointer (some ⟨gR, 0, none⟩)]) rfl trivial (enters_of Try.func33 (by kernel_rfl) rfl)
      (each_hands gR L hml 8 (by decide) W5 bR) (Below.refl _ _) (fun _ => rfl)
      (fun pre W => BoxN W (g + 1) 23 #[U64 (numL pre)] ∧ Below w.heap.size w W)
      (fun s A l o o' ⟨h1, h3⟩ hl _ _ => ⟨(World.putObj_heap_other (by omega)).trans h1, h3.trans (Below.put (Nat.le_trans hB.size hl))⟩)
      (fun o o' => ⟨(bD.alloc o).alloc o', (hB.alloc hB.size o).alloc (by have := hB.size; simp; omega) o'⟩)
      (fun x a' => a' = { tmps := #[.string (bstr l), undef, .int .u64 0, .int .i64 0, .pointer (some ⟨g, 0, none⟩), .bool true, .pointer (some ⟨g + 1, 0, none⟩), U8 x, .tuple #[.agg (rowB L), .bool true], .string (bstr l), .tuple #[.agg (rowB L), .bool true], .agg (rowB L), .bool true, .bool true, .bool false, .agg (rowB L), .func (.func 33) #[] #[.pointer (some ⟨gR, 0, none⟩)], U8 x, undef, undef, undef, undef, undef, undef], defers := [] })
      ?assign ?body ?done
    case assign =>
      rintro l pre x W K hK
      unfold enc8
      have hK' := Lib.hid hK
      clear hK
      gi_wp2_with fail
      exact hK'.out _ rfl
    case body =>
      rintro l' pre x a' W hz ⟨b2, hBW⟩ rfl -
      have c0 := b2.cell 0
      have f0 := b2.frozen 0
      have hbl := b2.lt
      simp at c0
      have e1 := shl64 (numL pre) 4 16 (by decide)
      have e3 := or64 (numL pre <<< 4) (x.setWidth 64)
      rw [← wide x] at e3
      have hn : Hid (numL (pre ++ [x]) = (numL pre <<< 4) ||| x.setWidth 64) := numL_snoc pre x
      obtain ⟨y, hy⟩ : ∃ y, (numL pre <<< 4) ||| x.setWidth 64 = y := ⟨_, rfl⟩
      rw [hy] at e3
      have hb2 : Hid (BoxN (W.setCell ⟨g + 1, 0, none⟩ (U64 y)) (g + 1) 23 #[U64 (numL (pre ++ [x]))]) := by
        unfold Hid; rw [hn.out, hy]; exact b2.set1 0 _
      have hB2 := Lib.hid (hBW.setCell (p := ⟨g + 1, 0, none⟩) (Nat.le_trans hg (Nat.le_succ g)) (U64 y))
      clear hy b2 hBW hn
      generalize numL pre <<< 4 = z at e1 e3
      generalize numL pre = q at c0 e1
      gi_wp2_with fail
      exact ⟨(KeepsOthers.setCell _ _ _).from _, hb2.out, hB2.out⟩
    case done =>
      rintro D W hD ⟨b2, hBW⟩ hK
      have c0 := b2.cell 0
      simp at c0
      gi_wp2_with fail
      refine ⟨by simp, .inl ⟨_, _, rfl, run_takeDeferred hK, ?_⟩⟩
      exact ⟨_, results_tmp2 rfl _ _ _, by rw [hp.out]; rfl, hBW.trans (Below.put (Nat.le_trans hB.size hD))⟩
end Go.Proofs.Ytdoliblcilhneaa
