/- The contract of Text. -/
import Derived.Test.YtdoliblcilhneaaDig
import Derived.Laws.BytesString
namespace Go.Proofs.Ytdoliblcilhneaa
open Go.RowKit Go.Joins
attribute [local go_sem] Oper.semAt_some

/-- Bytes as a string. -/
def bstr (l : List (BitVec 8)) : ByteArray := ⟨(l.map fun b => UInt8.ofBitVec b).toArray⟩
theorem push_all (l : List (BitVec 8)) : ∀ s : ByteArray, (l.map fun b => (b.toNat : Int)).foldl (fun r n => r.push (UInt8.ofNat n.toNat)) s = ⟨s.data ++ (l.map fun b => UInt8.ofBitVec b).toArray⟩ := by
  induction l with
  | nil => intro s; simp
  | cons b l ih =>
    intro s
    rw [List.map_cons, List.foldl_cons, ih]
    simp [ByteArray.push]
theorem str_run {A : Option Addr} {l : List (BitVec 8)} {W : World} (cap : Nat) (h : isB A l W) :
    (convert 22 9 (.slice A l.length cap)).run Try.prog W = .ok (.string (bstr l)) W := by
  rw [run_convert_bytes_string W 22 9 5 A l.length cap Try.underlying22 Try.underlying5 Try.underlying9]
  cases A with
  | none =>
    have hl : l = [] := by
      by_cases hl : l = []
      · exact hl
      · obtain ⟨_, _, e, _⟩ := h hl; cases e
    subst hl
    exact rfl
  | some a =>
    have hc : (loadCells a l.length).run Try.prog W = .ok ((l.map fun b => (b.toNat : Int)).map (Value.int .u8)).toArray W := by
      have := run_loadCells_list (P := Try.prog) W a (cellsB l) (fun j v hv => by
        have hne : l.length ≠ 0 := by
          intro e
          rw [List.eq_nil_of_length_eq_zero e] at hv
          simp [cellsB] at hv
        obtain ⟨ad, e, hr⟩ := h.news hne
        cases e
        exact hr j v hv)
      rw [cellsB_len] at this
      rw [this, List.map_map]; rfl
    rw [run_bytesToString W _ _ cap _ hc, push_all]
    simp [bstr]
theorem str_eq (l m : List (BitVec 8)) : ((bstr l).toList == (bstr m).toList) = decide (l = m) := by
  rw [Bool.eq_iff_iff, beq_iff_eq, decide_eq_true_iff, ByteArray.toList_eq, ByteArray.toList_eq]
  show (l.map fun b => UInt8.ofBitVec b) = (m.map fun b => UInt8.ofBitVec b) ↔ l = m
  exact List.map_inj_right (fun a b h => by simpa using h)

/-- How a digit is written. -/
def chr (x : BitVec 8) : BitVec 8 := if x.toNat < 10 then x + 48#8 else x + 87#8
def txt (d : BitVec 64) : List (BitVec 8) := (digs d).map chr
theorem txt_len (d : BitVec 64) : (txt d).length = 16 := by simp [txt, digs_len]
theorem digF_lt (d : BitVec 64) (i : Nat) : (digF d i).toNat < 16 := by
  unfold digF
  rw [BitVec.toNat_setWidth, BitVec.toNat_and]
  have : (d >>> (4 * (15 - i))).toNat &&& (15#64).toNat ≤ 15 := Nat.and_le_right
  omega
theorem digs_lt {d : BitVec 64} {x : BitVec 8} (h : x ∈ digs d) : x.toNat < 16 := by
  obtain ⟨i, _, rfl⟩ := List.mem_map.1 h
  exact digF_lt d i
def noteS : ByteArray := ⟨#[48, 49, 50, 51, 52, 53, 54, 55, 56, 57, 97, 98, 99, 100, 101, 102]⟩
theorem note_get : ∀ k : Fin 16, (noteS[k.val]'(by show k.val < 16; exact k.isLt)).toNat = (chr (BitVec.ofNat 8 k.val)).toNat := by decide
theorem index_note (x : BitVec 8) (hx : x.toNat < 16) (w : World) : (Instr.index 9 (.string ⟨#[48, 49, 50, 51, 52, 53, 54, 55, 56, 57, 97, 98, 99, 100, 101, 102]⟩) (.int .u8 x.toNat)).run Try.prog w = .ok (U8 (chr x)) w := by
  have h := run_index_string (P := Try.prog) w 9 noteS .u8 x.toNat Try.underlying9
  have hs : noteS.size = 16 := rfl
  rw [dif_pos ⟨by omega, by rw [hs]; omega⟩] at h
  refine h.trans ?_
  have h2 := note_get ⟨x.toNat, hx⟩
  simp only [BitVec.ofNat_toNat, BitVec.setWidth_eq] at h2
  simp only [Int.toNat_natCast, U8]
  rw [h2]

/-- Append at a step of a drawn region within a fence. -/
theorem stepIn_append {F : Fence} {n' : Nat} {P : Program} {w : World} {ops : Array Oper} {o : Oper} {a : Act} {K : Act → World → Prop} {Q : Exit → Act → World → Prop} {E : Prop} (hgd : o.guard = none) (s x : Operand) (t : TypeId)
    (ho : o.op = .call { callee := .builtin .append, args := #[s, x], argTypes := #[t, t] })
    (base : Nat) (e : TypeId) (i : TypeInfo) (z : Value) (size bytes : Nat) (ht : P.underlying t = some (.slice e)) (hi : P.info? e = some i) (hz : i.zero = some z)
    (hsize : i.size = size) (hby : i.bytes = bytes) (hzs : z.cells.size = size) (hsz : 0 < size)
    (v : Value) (n : Nat) (xs : List Value) (hs : a.eval s = v) (hown : w.ownsRow base e size v n xs)
    (ad : Addr) (m c : Nat) (news : List Value) (hx : a.eval x = .slice (some ad) m c) (hl : news.length = m * size) (hnews : ∀ j u, news[j]? = some u → w.cell? (ad.add j) = some u) (h1 : ∀ u ∈ news, u.oneCell' = true)
    (hm : 0 < m) (h63 : n + m ≤ maxLen) (hbytes : (n + m) * bytes ≤ 140737488355328) (hbase : base ≤ w.heap.size)
    (h : ∀ g cap w', w'.ownsRow base e size (.slice (some ⟨g, 0, none⟩) (n + m) cap) (n + m) (xs ++ news) → w.grownBy w' v.ownBlock → K (a.put o.dst (.slice (some ⟨g, 0, none⟩) (n + m) cap)) w') :
    if Region.wanted o (yielded ops a.tmps) = true then Oper.wpIn F n' P o a w K Q else E := by
  have hw : Region.wanted o (yielded ops a.tmps) = true := by simp [Region.wanted, hgd]
  rw [if_pos hw]
  obtain ⟨g, cap, w', hr, h2, h3, _, _⟩ := run_append_lies (P := P) w t o.type base e i z size bytes ht hi hz hsize hby hzs hsz v n xs hown ad m c news hl hnews h1 hm h63 hbytes hbase _ rfl
  unfold Oper.wpIn
  refine ⟨?_, ?_⟩
  · simp [Oper.about, ho, resolve, Target.leads, Sem.run_pure]
  · rw [Oper.semAt_plain F _ _ (by rw [ho]; intro c hc'; cases hc')]
    unfold execOp
    simp only [ho, resolve, invoke, builtin, Sem.run_bind, Sem.run_pure, Result.andThen_ok, List.map_toArray, List.map_cons, List.map_nil, hs, hx, hr]
    exact h g cap w' h2 h3

theorem own_far {w : World} {base : Nat} {e : TypeId} {size n : Nat} {v : Value} {xs : List Value} (h : w.ownsRow base e size v n xs) {p : Addr} (hp : p.block < base) (u : Value) : (w.setCell p u).ownsRow base e size v n xs := by
  obtain ⟨h1, h2⟩ := h
  refine ⟨h1, ?_⟩
  rcases h2 with h2 | ⟨g, cap, cur, e1, e2, e3, e4⟩
  · exact .inl h2
  · exact .inr ⟨g, cap, cur, e1, e2, (Below.heap_setCell w p u g (by omega)).trans e3, e4⟩
theorem own_cellsrow {w : World} {base : Nat} {e : TypeId} {size n : Nat} {v : Value} {xs : List Value} (h : w.ownsRow base e size v n xs) : ∀ (j : Nat) (o : Obj), v.ownBlock = some j → w.heap[j]? = some o → o.isCells = true := by
  intro j o hj ho
  rcases h.2 with ⟨rfl, _⟩ | ⟨g, cap, cur, rfl, _, h3, _⟩
  · cases hj
  · cases hj
    rw [h3] at ho
    cases ho; rfl
theorem own_put {w : World} {base : Nat} {e : TypeId} {size n : Nat} {v : Value} {xs : List Value} (h : w.ownsRow base e size v n xs) {l : Nat} {o o' : Obj} (hl : w.heap[l]? = some o) (ho : o.isCells = false) : (w.putObj l o').ownsRow base e size v n xs := by
  obtain ⟨h1, h2⟩ := h
  refine ⟨h1, ?_⟩
  rcases h2 with h2 | ⟨g, cap, cur, e1, e2, e3, e4⟩
  · exact .inl h2
  · refine .inr ⟨g, cap, cur, e1, e2, (World.putObj_heap_other ?_).trans e3, e4⟩
    rintro rfl
    rw [e3] at hl
    cases hl; cases ho
theorem Below.put {B : Nat} {A : World} {l : Nat} {o : Obj} (hl : B ≤ l) : Below B A (A.putObj l o) := ⟨rfl, rfl, rfl, by simp, fun k hk => World.putObj_heap_other (by omega)⟩
theorem txt_snoc (pre : List (BitVec 8)) (x : BitVec 8) : cellsB ((pre ++ [x]).map chr) = cellsB (pre.map chr) ++ [U8 (chr x)] := by
  simp [cellsB]

set_option maxRecDepth 100000 in
set_option maxHeartbeats 2000000 in
theorem text_any (d : BitVec 64) (w : World) :
    Calls Try.prog 21 #[U64 d] w fun e w' => e = .returned (.string (bstr (txt d))) ∧ Below w.heap.size w w' := by
  obtain ⟨i0, hi, hz0, hz1, hz2⟩ := info_parts infoB
  refine (callsIn_wide (n := 9)).1 ?_
  have hro : Fence.wide.round = none := rfl
  have hz : ∀ w : World, (zeroValue 22).run Try.prog w = .ok (.slice none 0 0) w := fun _ => by kernel_rfl
  refine callsIn_of_wp_marks Try.func21 rfl trivial ?_ hro
  simp only [Try.ntmps21, List.size_toArray, List.length_cons, List.length_nil, Nat.reduceAdd, Nat.reduceSub, Array.replicate_succ, Array.replicate_zero, List.push_toArray, List.append_toArray, List.nil_append, List.cons_append]
  have bT := BoxN.new w 22 #[.slice none 0 0]
  have hB : Below w.heap.size w (w.alloc (.cells #[.slice none 0 0] 22)) := (Below.refl _ _).alloc (Nat.le_refl _) _
  gi_wp2_with fail
  refine ⟨trivial, ?_⟩
  clear hz
  (with_reducible refine (callsIn_wide.2 (digitsOf_any d _)).mono ?_); rintro e w1 ⟨rfl, hb1⟩
  replace bT := bT.keep hb1
  replace hB := hB.trans (hb1.mono hB.size)
  gi_wp2_with fail
  refine ⟨trivial, ?_⟩
  (with_reducible refine (callsIn_wide.2 (each_any _ _)).mono ?_); rintro e w2 ⟨rfl, rfl⟩
  have bR := BoxN.new w1 51 (rowB (digs d))
  replace bT := bT.alloc (.cells (rowB (digs d)) 51)
  have hsz1 := hB.size
  replace hB := hB.alloc hB.size (.cells (rowB (digs d)) 51)
  have hsz := bT.lt
  gi_wp2_with fail
  have hRb : w1.heap.size < (w1.alloc (.cells (rowB (digs d)) 51)).heap.size := by simp
  generalize w1.alloc (.cells (rowB (digs d)) 51) = W0 at bT bR hB hsz hRb ⊢
  generalize w1.heap.size = gR at bR hRb ⊢
  have hown0 : W0.ownsRow (w.heap.size + 1) 5 1 (.slice none 0 0) 0 [] := ⟨rfl, .inl ⟨rfl, rfl⟩⟩
  refine wpIn_handsQ hro (by decide) (gf := 33) (lb := #[.pointer (some ⟨gR, 0, none⟩)]) rfl trivial (enters_of Try.func33 (by kernel_rfl) rfl)
    (each_hands gR (digs d) (digs_len d) 8 (by decide) W0 bR) (Below.refl _ _) (fun _ => rfl)
    (fun pre W => ∃ v, BoxN W w.heap.size 22 #[v] ∧ W.ownsRow (w.heap.size + 1) 5 1 v pre.length (cellsB (pre.map chr)) ∧ Below w.heap.size w W)
    (fun s A l o o' ⟨v, h1, h2, h3⟩ hl ho hc => ⟨v, (World.putObj_heap_other (by omega)).trans h1, own_put h2 ho hc, h3.trans (Below.put (by omega))⟩)
    (fun o o' => ⟨_, (bT.alloc o).alloc o', (hown0.alloc o).alloc o', (hB.alloc hB.size o).alloc (by simp; omega) o'⟩)
    (fun x a' => a' = { tmps := #[U64 d, undef, .string ⟨#[]⟩, .pointer (some ⟨w.heap.size, 0, none⟩), U8 x, U64 d, .agg (rowB (digs d)), .func (.func 33) #[] #[.pointer (some ⟨gR, 0, none⟩)], U8 x, undef, undef, undef, undef, undef, undef, undef], defers := [] })
    ?assign ?body ?done
  case assign =>
    rintro l pre x W K hK
    unfold enc8
    have hK' := Lib.hid hK
    clear hK
    gi_wp2_with fail
    exact hK'.out _ rfl
  case body =>
    rintro l pre x a' W hz ⟨v, b0, hown, hBW⟩ rfl hpre
    have hx : x.toNat < 16 := digs_lt (d := d) (by
      obtain ⟨t, ht⟩ := hpre
      rw [← ht]; simp)
    have hpl : pre.length + 1 ≤ 16 := by
      have := hpre.length_le
      rw [digs_len, List.length_append] at this
      simpa using this
    have hidx := index_note x hx
    have hts : Hid (cellsB ((pre ++ [x]).map chr) = cellsB (pre.map chr) ++ [U8 (chr x)]) := txt_snoc pre x
    have hlen : Hid ((pre ++ [x]).length = pre.length + 1) := by unfold Hid; simp
    have c0 := b0.cell 0
    have f0 := b0.frozen 0
    have hgl := b0.lt
    simp at c0
    have hown1 := (World.ownsRow.drew hown).alloc (.cells #[U8 (chr x)] 5)
    have hNews := Lib.hid (World.news_of_block (heap_alloc_new W.drew (.cells #[U8 (chr x)] 5)))
    have hcr := own_cellsrow hown1
    have hbk := own_block_le hown1
    have b1 := (BoxN.drew b0).alloc (.cells #[U8 (chr x)] 5)
    have hB1 : Below w.heap.size w (W.drew.alloc (.cells #[U8 (chr x)] 5)) := hBW.drew.alloc hBW.size _
    have hk1 : KeepsOthers W (W.drew.alloc (.cells #[U8 (chr x)] 5)) := (KeepsOthers.drew W).trans (KeepsOthers.alloc _ _)
    have hzz : w.heap.size + 1 ≤ (W.drew.alloc (.cells #[U8 (chr x)] 5)).heap.size := by have := b1.lt; omega
    have hFin : Hid (∀ (g cap : Nat) (w5 : World), w5.ownsRow (w.heap.size + 1) 5 1 (.slice (some ⟨g, 0, none⟩) (pre.length + 1) cap) (pre.length + 1) (cellsB (pre.map chr) ++ [U8 (chr x)]) → (W.drew.alloc (.cells #[U8 (chr x)] 5)).grownBy w5 v.ownBlock →
        BoxN w5 w.heap.size 22 #[v] ∧ KeepsFrom W0.heap.size W (w5.setCell ⟨w.heap.size, 0, none⟩ (.slice (some ⟨g, 0, none⟩) (pre.length + 1) cap)) ∧ ∃ v, BoxN (w5.setCell ⟨w.heap.size, 0, none⟩ (.slice (some ⟨g, 0, none⟩) (pre.length + 1) cap)) w.heap.size 22 #[v] ∧
          (w5.setCell ⟨w.heap.size, 0, none⟩ (.slice (some ⟨g, 0, none⟩) (pre.length + 1) cap)).ownsRow (w.heap.size + 1) 5 1 v (pre.length + 1) (cellsB (pre.map chr) ++ [U8 (chr x)]) ∧ Below w.heap.size w (w5.setCell ⟨w.heap.size, 0, none⟩ (.slice (some ⟨g, 0, none⟩) (pre.length + 1) cap))) := fun g cap w5 h5 hg5 => by
      have hb5 : BoxN w5 w.heap.size 22 #[v] := (hg5.block w.heap.size b1.lt (fun e => by have := hbk _ e.symm; omega)).trans b1
      exact ⟨hb5, ((hk1.trans (KeepsOthers.of_grownBy hg5 hcr)).trans (KeepsOthers.setCell _ _ _)).from _, _, hb5.set1 0 _, own_far h5 (by simp) _, (hB1.grown hg5 hB1.size (fun k e => by have := hbk k e; omega)).setCell (Nat.le_refl _) _⟩
    have hone : ∀ u ∈ [U8 (chr x)], u.oneCell' = true := by simp [Value.oneCell']
    have Hown := Lib.hid hown1
    clear hcr hbk b1 hB1 hk1 hown hown1 hpre hx hBW b0
    gi_wp2_with fail
    refine wpIn_region_any (by kernel_rfl) ?_
    change wpAnyIn _ _ _ _ _ _ _ _ _ (World.drew _)
    repeat' (first
      | (refine wpAnyIn_done (by decide +kernel) ?_ _)
      | (refine wpAnyIn_ready (rs := [0, 1]) (by decide +kernel) (by simp) ?_)
      | (refine wpAnyIn_ready (rs := [0, 2]) (by decide +kernel) (by simp) ?_)
      | (refine wpAnyIn_ready (rs := [0, 3]) (by decide +kernel) (by simp) ?_)
      | (refine wpAnyIn_ready (rs := [0]) (by decide +kernel) (by simp) ?_)
      | (refine wpAnyIn_ready (rs := [1]) (by decide +kernel) (by simp) ?_)
      | (refine wpAnyIn_ready (rs := [2]) (by decide +kernel) (by simp) ?_)
      | (refine wpAnyIn_ready (rs := [3]) (by decide +kernel) (by simp) ?_)
      | (refine wpAnyIn_ready (rs := [4]) (by decide +kernel) (by simp) ?_)
      | (refine wpAnyIn_ready (rs := [5]) (by decide +kernel) (by simp) ?_)
      | exact AllReadyIn.nil
      | (refine AllReadyIn.cons rfl (fun K hK => ?_) ?_)
      | (refine stepIn_append rfl (.tmp 9) (.tmp 12) 22 rfl (w.heap.size + 1) 5 i0 _ 1 1 Try.underlying22 hi hz0 hz1 hz2 rfl (by decide) v pre.length _ rfl Hown.out ⟨W.drew.heap.size, 0, none⟩ 1 1 [U8 (chr x)] rfl rfl hNews.out hone (by decide) (by unfold maxLen; omega) (by omega) hzz ?_
         intro g cap w5 h5 hg5
         obtain ⟨hb5, hF⟩ := hFin.out g cap w5 h5 hg5
         have hat5 := hb5.cell 0
         have hfr5 := hb5.frozen 0
         have hl5 := hb5.lt
         simp at hat5
         clear h5 hg5 hb5 c0 f0
         refine hK _ _ ?_
         clear hK K)
      | (go_simp; refine hK _ _ ?_; clear hK K))
    all_goals
      have HF5 := Lib.hid hF
      clear hF hat5 hfr5
      gi_wp2_with fail
      refine ⟨HF5.out.1, ?_⟩
      dsimp only
      rw [hlen.out, hts.out]
      exact HF5.out.2
  case done =>
    rintro D W hD ⟨v, b0, hown, hBW⟩ hK
    rw [digs_len] at hown
    obtain ⟨g, cap, rfl⟩ := own_slice hown
    have c0 := b0.cell 0
    simp at c0
    have hs := str_run (A := g) (l := txt d) (W := W) cap (isB_of_own (c := cap) (n := 16) (by exact hown))
    rw [txt_len] at hs
    gi_wp2_with fail
    refine ⟨by simp, .inl ⟨_, _, rfl, run_takeDeferred hK, ?_⟩⟩
    exact ⟨_, results_tmp rfl _ _ _, rfl, hBW.trans (Below.put (Nat.le_trans hB.size hD))⟩
end Go.Proofs.Ytdoliblcilhneaa
