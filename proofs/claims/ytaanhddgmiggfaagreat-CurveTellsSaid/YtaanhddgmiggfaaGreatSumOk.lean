/- curve.Sum at two curves. -/
import Derived.Test.YtaanhddgmiggfaaGreatSum
namespace Go.Proofs.YtaanhddgmiggfaaGreat
open Go.RowKit Go.Joins Go.Shelf Go.Sort Num
attribute [local go_sem] Oper.semAt_some

/-- append to a slice of the call's own, within a fence, and where the new row lies. -/
theorem wpListIn_append_at {F : Fence} {n : Nat} {P : Program} (w : World) {ops : Array Oper} {rest : List Oper} {o : Oper} {a : Act} {Q : Exit → Act → World → Prop}
    (hg : o.guard = none) (s x : Operand) (t : TypeId) (hop : o.op = Op.call { callee := Callee.builtin Builtin.append, args := #[s, x], argTypes := #[t, t] })
    (base : Nat) (e : TypeId) (i : TypeInfo) (z : Value) (size bytes : Nat) (h1 : P.underlying t = some (.slice e)) (h2 : P.info? e = some i) (h3 : i.zero = some z) (h4 : i.size = size) (h5 : i.bytes = bytes) (h6 : z.cells.size = size) (h7 : 0 < size)
    (v : Value) (k : Nat) (xs : List Value) (hs : a.eval s = v) (hown : w.ownsRow base e size v k xs) (ad : Addr) (m c : Nat) (news : List Value) (hx : a.eval x = .slice (some ad) m c) (hn : news.length = m * size)
    (hc : ∀ j u, news[j]? = some u → w.cell? (ad.add j) = some u) (h1c : ∀ u ∈ news, u.oneCell' = true) (b1 : k + m ≤ maxLen) (b2 : (k + m) * bytes ≤ 140737488355328) (b3 : base ≤ w.heap.size)
    (hK : ∀ v' w', w'.ownsRow base e size v' (k + m) (xs ++ news) → w.grownBy w' v.ownBlock → (v'.ownBlock = v.ownBlock ∨ v'.ownBlock = some w.heap.size) → wpListIn F n P ops Q rest (a.put o.dst v') w') :
    wpListIn F n P ops Q (o :: rest) a w := by
  refine wpListIn_plain hg fun K hK' => ?_
  obtain ⟨v', w', hrun, r1, r2, _, r3⟩ := run_append_own_at (P := P) w base t o.type e i z size bytes h1 h2 h3 h4 h5 h6 h7 v k xs hown ad m c news hn hc h1c b1 b2 b3
  unfold Oper.wpIn
  refine ⟨?_, ?_⟩
  · simp [Oper.about, hop, resolve, Target.leads, Sem.run_pure]
  · rw [Oper.semAt_plain F _ _ (by rw [hop]; intro c hc'; cases hc')]
    simp [execOp, hop, resolve, invoke, builtin, hs, hx, hrun, Result.andThen]
    exact hK' _ _ (hK v' w' r1 r2 r3)

/-- The append and the store of its result into the box leave the blocks alone that are neither box nor row. -/
theorem Kf.app {bL : Nat} {W W1 : World} {t : TypeId} {v v' : Value} {base : Nat} {e : TypeId} {size k m : Nat} {xs ys : List Value} (hv : Boxed W bL t v) (hte : t ≠ e) (hrow : W.ownsRow base e size v k xs) (hown : W1.ownsRow base e size v' m ys)
    (hg : W.grownBy W1 v.ownBlock) (hat : v'.ownBlock = v.ownBlock ∨ v'.ownBlock = some W.heap.size) : Kf bL W (W1.setCell ⟨bL, 0, none⟩ v') := fun hgd => by
  have hb1 : Boxed W1 bL t v := hv.kept hg (hv.not_row hte hrow)
  have hb2 : Boxed (W1.setCell ⟨bL, 0, none⟩ v') bL t v' := hb1.set v'
  have hsz : (W1.setCell ⟨bL, 0, none⟩ v').heap.size = W1.heap.size := by simp [World.setCell]
  refine ⟨fun u hu g hgu => ?_, fun i hi => ?_⟩
  · rw [hb2.cell] at hu
    cases hu
    rw [hsz]
    rcases own_block hown with h | ⟨g', h1, _, h2⟩
    · rw [h] at hgu; cases hgu
    · rw [h1] at hgu; cases hgu; exact h2
  · have hne := hi.nr v hv.cell
    have e1 : W1.heap[i]? = W.heap[i]? := hg.block i hi.lt (fun h => hne h.symm)
    have e2 : (W1.setCell ⟨bL, 0, none⟩ v').heap[i]? = W.heap[i]? := (Below.heap_setCell W1 ⟨bL, 0, none⟩ v' i hi.ne).trans e1
    obtain ⟨cs, t', hcs⟩ := hi.cs
    refine ⟨e2, ⟨cs, t', e2.trans hcs⟩, hi.ne, fun u hu h => ?_⟩
    rw [hb2.cell] at hu
    cases hu
    rcases hat with h' | h'
    · exact hne (h' ▸ h)
    · rw [h'] at h; cases h; exact absurd hi.lt (Nat.lt_irrefl _)
theorem keepsFrom_below {B : Nat} {W W' : World} (h : Below W.heap.size W W') : KeepsFrom B W W' := ⟨h.size, fun k _ _ hk _ => (h.block k (Array.getElem?_eq_some_iff.1 hk).1).trans hk⟩
theorem pairs_length (na nb : List Buck) : (pairsL na nb).length = na.length * nb.length := by
  unfold pairsL
  induction na with
  | nil => simp
  | cons x l ih => rw [List.flatMap_cons, List.length_append, ih, List.length_map, List.length_cons, Nat.succ_mul, Nat.add_comm]
theorem fr_nil {W : World} {bL k : Nat} {t t' : TypeId} {cs : Array Value} (hb : Boxed W bL t (.slice none 0 0)) (hk : W.heap[k]? = some (.cells cs t' (0, 0))) (ne : k ≠ bL) : FrW bL W k := by
  refine ⟨⟨cs, t', hk⟩, ne, fun v hv h => ?_⟩
  rw [hb.cell] at hv
  cases hv
  cases h
theorem good_nil {W : World} {bL : Nat} {t : TypeId} (hb : Boxed W bL t (.slice none 0 0)) : GoodW bL W := fun v hv g hg => by
  rw [hb.cell] at hv
  cases hv
  cases hg
theorem Own4.frW {base : Nat} {W : World} {v : Value} {c : List Buck} (h : Own4 base W v c) : ∃ A cap, v = .slice A c.length cap ∧ (c ≠ [] → ∃ g cs t, A = some ⟨g, 0, none⟩ ∧ W.heap[g]? = some (.cells cs t (0, 0)) ∧ Row W g 0 c) := by
  by_cases hc : c = []
  · subst hc
    exact ⟨none, 0, h.2.2 rfl, fun h => absurd rfl h⟩
  · obtain ⟨g, cap, rfl, hb, hlt⟩ := h.1.form (List.length_pos_iff.2 hc)
    rcases h.1.2 with ⟨e, _⟩ | ⟨g', cap', cur, e, _, e3, _⟩
    · cases e
    · simp only [Value.slice.injEq, Option.some.injEq, Addr.mk.injEq, and_true, true_and] at e
      obtain ⟨rfl, rfl⟩ := e
      exact ⟨_, cap, rfl, fun _ => ⟨g, cur, _, rfl, e3, row_of_holdsK (holdsK_of_own h.1)⟩⟩

theorem Own4.same {base : Nat} {W W' : World} {v : Value} {c : List Buck} (h : Own4 base W v c) (hs : ∀ g, base ≤ g → W'.heap[g]? = W.heap[g]?) : Own4 base W' v c := by
  refine ⟨⟨h.1.1, ?_⟩, h.2⟩
  rcases h.1.2 with h2 | ⟨g, cap, cur, e1, e2, e3, e4⟩
  · exact .inl h2
  · exact .inr ⟨g, cap, cur, e1, e2, (hs g e2).trans e3, e4⟩

set_option maxRecDepth 100000 in
set_option maxHeartbeats 8000000 in
theorem sum_in (A B : Option Addr) (ca cb : Nat) (a b : List Buck) (ha1 : 1 ≤ a.length) (ha2 : a.length ≤ 32) (hb1 : 1 ≤ b.length) (hb2 : b.length ≤ 32) (w : World) (hIa : Sl w.heap.size w (.slice A a.length ca) a) (hIb : Sl w.heap.size w (.slice B b.length cb) b) :
    CallsIn Fence.wide 9 Tryz.prog 21 #[.slice A a.length ca, .slice B b.length cb] w (SumPost (normL a) (normL b) w) := by
  have hro : Fence.wide.round = none := rfl
  obtain ⟨i0, hi, hz0, hz1, hz2⟩ := info_parts infoB
  have hB0 := ((Below.refl w.heap.size w).alloc (Nat.le_refl _) (.cells #[.slice none 0 0] 23)).alloc (by simp) (.cells #[.int .i64 0] 27)
  have HV := callsIn_wide (n := 8).2 (valid_ok ha1 ha2 ((hIa.below hB0 (Nat.le_refl _)).more hB0.size))
  have HT : Hid (∀ W : World, Below w.heap.size w W → _) := fun W hb => callsIn_wide (n := 8).2 (valid_ok hb1 hb2 ((hIb.below hb (Nat.le_refl _)).more hb.size))
  have HA : Hid (∀ W : World, Below w.heap.size w W → CallsIn Fence.wide 8 Tryz.prog 65 #[.slice A a.length ca] W fun e w' => ∃ v, e = .returned v ∧ Own4 W.heap.size w' v (normL a) ∧ Below W.heap.size W w') := fun W hb => callsIn_wide.2 ((normal_any A ca a (by omega) W ((hIa.below hb (Nat.le_refl _)).more hb.size)).mono fun e w' ⟨v, h1, h2, h3, h4⟩ => ⟨v, h1, ⟨h2, h3⟩, h4⟩)
  have HB : Hid (∀ W : World, Below w.heap.size w W → CallsIn Fence.wide 8 Tryz.prog 65 #[.slice B b.length cb] W fun e w' => ∃ v, e = .returned v ∧ Own4 W.heap.size w' v (normL b) ∧ Below W.heap.size W w') := fun W hb => callsIn_wide.2 ((normal_any B cb b (by omega) W ((hIb.below hb (Nat.le_refl _)).more hb.size)).mono fun e w' ⟨v, h1, h2, h3, h4⟩ => ⟨v, h1, ⟨h2, h3⟩, h4⟩)
  have HP : Hid (∀ (A B : Option Addr) (la ca lb cb : Nat) (W : World), _) := fun A B la ca lb cb W => pairs_in Fence.wide 8 trivial rfl A B la ca lb cb W
  have hnl : (normL a).length ≤ 32 := by have := foldl_keep_length (sortL a) []; rw [sortL_length] at this; simp only [List.length_nil] at this; unfold normL; omega
  have hml : (normL b).length ≤ 32 := by have := foldl_keep_length (sortL b) []; rw [sortL_length] at this; simp only [List.length_nil] at this; unfold normL; omega
  clear hIa hIb
  refine callsIn_of_wp_marks Tryz.func21 rfl trivial ?_ hro
  simp only [Tryz.ntmps21, List.size_toArray, List.length_cons, List.length_nil, Nat.reduceAdd, Nat.reduceSub, Array.replicate_succ, Array.replicate_zero, List.push_toArray, List.append_toArray, List.nil_append, List.cons_append]
  gi_wp2_with fail
  refine ⟨trivial, ?_⟩
  (with_reducible refine HV.mono ?_); rintro e w1 ⟨rfl, hb1⟩
  have hB1 := hB0.trans (hb1.mono hB0.size)
  have HT1 := HT.out _ hB1
  clear HV HT
  gi_wp2_with fail
  refine ⟨trivial, ?_⟩
  (with_reducible refine HT1.mono ?_); rintro e w2 ⟨rfl, hb2⟩
  have hB2 := hB1.trans (hb2.mono hB1.size)
  replace hb2 := bnext hb1 hb2
  have b4 := ((BoxN.new w 23 #[.slice none 0 0]).alloc (.cells #[.int .i64 0] 27)).below hb2 (by simp; omega)
  have b5 := (BoxN.new (w.alloc (.cells #[.slice none 0 0] 23)) 27 #[.int .i64 0]).below hb2 (by simp)
  rw [World.size_alloc] at b5
  have HA1 := HA.out _ hB2
  clear hb1 hb2 HT1 hB1 HA hB0
  gi_wp2_with fail
  refine ⟨trivial, ?_⟩
  (with_reducible refine HA1.mono ?_); rintro e w3 ⟨va, rfl, hoa, hb3⟩
  replace b4 := b4.below hb3 b4.lt
  replace b5 := b5.below hb3 b5.lt
  have hB3 := hB2.trans (hb3.mono hB2.size)
  have HB1 := HB.out _ hB3
  clear HA1 HB
  gi_wp2_with fail
  refine ⟨trivial, ?_⟩
  (with_reducible refine HB1.mono ?_); rintro e w4 ⟨vb, rfl, hob, hb4⟩
  replace b4 := b4.below hb4 b4.lt
  replace b5 := b5.below hb4 b5.lt
  have hB4 := hB3.trans (hb4.mono hB3.size)
  replace hoa := hoa.below hb4
  clear HB1 hb3 hb4 hB2 hB3
  obtain ⟨Aa, cca, rfl, hra⟩ := hoa.frW
  obtain ⟨Ab, ccb, rfl, hrb⟩ := hob.frW
  clear hoa hob
  generalize normL a = na at *
  generalize normL b = nb at *
  have hpl := Lib.hid (pairs_length na nb)
  by_cases hn : 32 < na.length * nb.length
  · have hdec : decide ((32 : Int) < ↑na.length * ↑nb.length) = true := by
      rw [decide_eq_true_iff, ← Int.natCast_mul]; omega
    have hm1 : ((na.length : Int) * nb.length) ≤ 1024 := by
      have := Nat.mul_le_mul hnl hml
      rw [← Int.natCast_mul]; omega
    have hm0 : 0 ≤ ((na.length : Int) * nb.length) := by rw [← Int.natCast_mul]; omega
    have c4 : w4.cell? ⟨w.heap.size, 0, none⟩ = some (.slice none 0 0) := b4.cell 0
    have c5 : w4.cell? ⟨w.heap.size + 1, 0, none⟩ = some (.int .i64 0) := b5.cell 0
    have f4 := b4.frozen 0
    have f5 := b5.frozen 0
    have k4 := b4.lt
    have k5 := b5.lt
    obtain ⟨q4, q5⟩ := res2 (.slice none 0 0) (.int .i64 5) b4 b5 (by omega)
    have r4 := Lib.hid (q4.cell 0)
    have r5 := Lib.hid (q5.cell 0)
    have hB := hB4
    clear q4 q5 b4 b5 hpl hra hrb HP hB4
    gi_wp2
    refine ⟨.tuple #[.slice none 0 0, .int .i64 5], by simp [results, Tryz.f21, go_sem, r4.out, r5.out], fun _ => rfl, fun h => absurd hn (by omega), fun h => absurd hn (by omega), ?_⟩
    (have hBs := hB.size; (try simp only [World.size_alloc] at hBs); repeat' (first | (with_reducible exact hB) | (with_reducible exact hBs) | (with_reducible refine Below.drew ?_) | (with_reducible refine below_drewN ?_ _) | (with_reducible refine Below.setCell ?_ ?_ _) | (with_reducible refine Below.alloc ?_ ?_ _) | go_size | omega | (simp; omega)))
  · have hdec : decide ((32 : Int) < ↑na.length * ↑nb.length) = false := by
      rw [decide_eq_false_iff_not, ← Int.natCast_mul]; omega
    have HP1 := HP.out Aa Ab na.length cca nb.length ccb (w4.alloc (.cells #[.slice none 0 0] 22))
    rw [World.size_alloc] at HP1
    gi_wp2_with fail
    refine ⟨trivial, ?_⟩
    (with_reducible refine HP1.mono ?_); rintro e w5 ⟨rfl, rfl⟩
    have bO := ((Boxed.new w4 22 (.slice none 0 0)).alloc (.cells #[.slice Aa na.length cca] 23)).alloc (.cells #[.slice Ab nb.length ccb] 23)
    have hW0 : Below w4.heap.size w4 (((w4.alloc (.cells #[.slice none 0 0] 22)).alloc (.cells #[.slice Aa na.length cca] 23)).alloc (.cells #[.slice Ab nb.length ccb] 23)) := (((Below.refl _ _).alloc (Nat.le_refl _) _).alloc (by simp) _).alloc (by simp; omega) _
    have bA : BoxN (((w4.alloc (.cells #[.slice none 0 0] 22)).alloc (.cells #[.slice Aa na.length cca] 23)).alloc (.cells #[.slice Ab nb.length ccb] 23)) (w4.heap.size + 1) 23 #[.slice Aa na.length cca] := by
      have := (BoxN.new (w4.alloc (.cells #[.slice none 0 0] 22)) 23 #[.slice Aa na.length cca]).alloc (.cells #[.slice Ab nb.length ccb] 23)
      rwa [World.size_alloc] at this
    have bB : BoxN (((w4.alloc (.cells #[.slice none 0 0] 22)).alloc (.cells #[.slice Aa na.length cca] 23)).alloc (.cells #[.slice Ab nb.length ccb] 23)) (w4.heap.size + 1 + 1) 23 #[.slice Ab nb.length ccb] := by
      have := BoxN.new ((w4.alloc (.cells #[.slice none 0 0] 22)).alloc (.cells #[.slice Aa na.length cca] 23)) 23 #[.slice Ab nb.length ccb]
      rwa [World.size_alloc, World.size_alloc] at this
    have hsz : (((w4.alloc (.cells #[.slice none 0 0] 22)).alloc (.cells #[.slice Aa na.length cca] 23)).alloc (.cells #[.slice Ab nb.length ccb] 23)).heap.size = w4.heap.size + 3 := by simp
    generalize ((w4.alloc (.cells #[.slice none 0 0] 22)).alloc (.cells #[.slice Aa na.length cca] 23)).alloc (.cells #[.slice Ab nb.length ccb] 23) = W0 at bO hW0 bA bB hsz ⊢
    have sA : BoxSl w4.heap.size W0 (w4.heap.size + 1) 23 na := ⟨fr_nil bO bA (by omega), Aa, cca, bA, fun h => by
      obtain ⟨g, cs, t, e, hg, hr⟩ := hra h
      have hgl := (Array.getElem?_eq_some_iff.1 hg).1
      exact ⟨g, 0, e, fr_nil bO ((hW0.block g hgl).trans hg) (by omega), hr.same (hW0.block g hgl)⟩⟩
    have sB : BoxSl w4.heap.size W0 (w4.heap.size + 1 + 1) 23 nb := ⟨fr_nil bO bB (by omega), Ab, ccb, bB, fun h => by
      obtain ⟨g, cs, t, e, hg, hr⟩ := hrb h
      have hgl := (Array.getElem?_eq_some_iff.1 hg).1
      exact ⟨g, 0, e, fr_nil bO ((hW0.block g hgl).trans hg) (by omega), hr.same (hW0.block g hgl)⟩⟩
    have hgd := good_nil bO
    clear bA bB hra hrb
    have b5l : w.heap.size + 1 < w4.heap.size := b5.lt
    replace b4 := b4.below hW0 b4.lt
    replace b5 := b5.below hW0 b5.lt
    have hB0 := hB4.trans (hW0.mono hB4.size)
    have hn' : na.length * nb.length ≤ 32 := by omega
    have hpl2 : (pairsL na nb).length ≤ 32 := by rw [hpl.out]; exact hn'
    have HAd : Hid (∀ (p : Buck × Buck) (W : World), CallsIn Fence.wide 6 Tryz.prog 67 #[.agg p.1.cells.toArray, .agg p.2.cells.toArray] W fun e w' => e = .returned (buckV (addV p.1.b p.1.r p.2.b p.2.r)) ∧ Below W.heap.size W w') := fun p W => callsIn_wide.2 (add_b p.1.hb p.1.hr p.2.hb p.2.hr W)
    have bz : w.heap.size ≤ w4.heap.size := hB4.size
    gi_wp2
    refine wpIn_rangeFunc_ownH hro (by decide) (gf := 104) (lb := #[.pointer (some ⟨w4.heap.size + 1, 0, none⟩), .pointer (some ⟨w4.heap.size + 1 + 1, 0, none⟩)]) rfl trivial (enters_of Tryz.func104 (by kernel_rfl) rfl)
      (pairs_stops Fence.wide 8 trivial rfl (by decide) (w4.heap.size + 1) (w4.heap.size + 1 + 1) w4.heap.size w4.heap.size na nb (by omega) (by omega) W0 (by omega) hgd sA sB) Kp2.t (Kp2.b (by omega) (by omega)) (Below.refl _ _) (fun _ => rfl)
      (fun pre W => ((∃ v, Boxed W w4.heap.size 22 v ∧ W.ownsRow w4.heap.size 80 4 v pre.length (cellsOf (pre.map addB)) ∧ (v = .slice none 0 0 ↔ pre = [])) ∧ (∀ p ∈ pre, oka p)) ∧ Below w4.heap.size W0 W)
      (fun c pre W => ((c = .ret ∧ ∃ p ∈ pre, ¬ oka p) ∧ (BoxN W w.heap.size 23 #[.slice none 0 0] ∧ BoxN W (w.heap.size + 1) 27 #[.int .i64 3])) ∧ Below w.heap.size w W)
      (OwnFrom.and (OwnFrom.and (Own.from (holdsRow_own w4.heap.size w4.heap.size 22 80 4 (fun pre : List (Buck × Buck) => pre.length) (fun pre => cellsOf (pre.map addB)) (fun pre v => v = .slice none 0 0 ↔ pre = [])) _) (ownFrom_pure _ _)) (ownFrom_below (by omega) (by omega)))
      (fun c => OwnFrom.and (OwnFrom.and (ownFrom_pure _ _) (OwnFrom.and (Own.from (boxN_own _ _ (fun _ : List (Buck × Buck) => #[.slice none 0 0])) _) (Own.from (boxN_own _ _ (fun _ : List (Buck × Buck) => #[.int .i64 3])) _))) (ownFrom_below (Nat.le_refl _) (by omega)))
      ⟨⟨⟨_, bO, World.ownsRow_nil _ _ _ _, by simp⟩, by simp⟩, Below.refl _ _⟩
      (fun p a' W => ∃ Bx By, (w4.heap.size < Bx ∧ w4.heap.size < By) ∧ (BoxN W Bx 80 p.1.cells.toArray ∧ BoxN W By 80 p.2.cells.toArray) ∧ a' = { tmps := #[.slice Aa na.length cca, .slice Ab nb.length ccb, undef, undef, .pointer (some ⟨w.heap.size, 0, none⟩), .pointer (some ⟨w.heap.size + 1, 0, none⟩), .pointer (some ⟨w4.heap.size, 0, none⟩), .pointer (some ⟨Bx, 0, none⟩), .pointer (some ⟨By, 0, none⟩), undef, undef, .slice A a.length ca, .bool true, .bool false, .bool false, .slice B b.length cb, .bool true, .bool false, .bool false, .slice A a.length ca, .slice Aa na.length cca, .slice B b.length cb, .slice Ab nb.length ccb, .slice Aa na.length cca, .int .i64 na.length, .slice Ab nb.length ccb, .int .i64 nb.length, .int .i64 (↑na.length * ↑nb.length), .bool false, .slice Aa na.length cca, .slice Ab nb.length ccb, .func (.func 104) #[] #[.pointer (some ⟨w4.heap.size + 1, 0, none⟩), .pointer (some ⟨w4.heap.size + 1 + 1, 0, none⟩)], .agg p.1.cells.toArray, .agg p.2.cells.toArray, undef, undef, undef, undef, undef, undef, undef, undef, undef, undef, undef, undef, undef, undef, undef], defers := [] })
      (fun p a' _ X Y row hs hg hr => by obtain ⟨Bx, By, h1, ⟨h2, h3⟩, h4⟩ := hs; exact ⟨Bx, By, h1, ⟨boxN_own Bx 80 (fun (_ : Unit) => p.1.cells.toArray) () X Y row h2 hg (fun r e => (hr r e).2), boxN_own By 80 (fun (_ : Unit) => p.2.cells.toArray) () X Y row h3 hg (fun r e => (hr r e).2)⟩, h4⟩)
      ?assign ?body ?done ?stop
    case assign =>
      rintro l pre p W K ⟨⟨⟨v, hv, hrow, hnil⟩, hok⟩, hB⟩ hK
      simp only [Buck.cells] at hK ⊢
      gi_wp2
      have hx1 : Below W.heap.size W ((W.alloc (.cells #[.int .i64 p.1.b.num, .int .i64 p.1.b.den, .int .i64 p.1.r.num, .int .i64 p.1.r.den] 80)).alloc (.cells #[.int .i64 p.2.b.num, .int .i64 p.2.b.den, .int .i64 p.2.r.num, .int .i64 p.2.r.den] 80)) := ((Below.refl _ _).alloc (Nat.le_refl _) _).alloc (by simp) _
      have hWz := hB.size
      have hvl := hv.lt
      exact hK _ _ (keepsFrom_below hx1) ⟨hx1.mono (by omega), Kf.below hx1 hv.lt⟩ ⟨⟨⟨v, (hv.alloc _).alloc _, (hrow.alloc _).alloc _, hnil⟩, hok⟩, hB.trans (hx1.mono (by omega))⟩
        ⟨W.heap.size, W.heap.size + 1, ⟨by omega, by omega⟩, ⟨(BoxN.new W _ _).alloc _, by have := BoxN.new (W.alloc (.cells #[.int .i64 p.1.b.num, .int .i64 p.1.b.den, .int .i64 p.1.r.num, .int .i64 p.1.r.den] 80)) 80 #[.int .i64 p.2.b.num, .int .i64 p.2.b.den, .int .i64 p.2.r.num, .int .i64 p.2.r.den]; rwa [World.size_alloc] at this⟩, rfl⟩
    case body =>
      rintro l pre p a' W hl ⟨r, hr⟩ ⟨⟨⟨v, hv, hrow, hnil⟩, hok⟩, hB⟩ ⟨Bx, By, ⟨hBx, hBy⟩, ⟨bX, bY⟩, rfl⟩ hlt
      have hWz := hB.size
      have hvl := hv.lt
      have x0 : W.cell? ⟨Bx, 0, none⟩ = some (.int .i64 p.1.b.num) := bX.cell 0
      have x1 : W.cell? ⟨Bx, 1, none⟩ = some (.int .i64 p.1.b.den) := bX.cell 1
      have x2 : W.cell? ⟨Bx, 2, none⟩ = some (.int .i64 p.1.r.num) := bX.cell 2
      have x3 : W.cell? ⟨Bx, 3, none⟩ = some (.int .i64 p.1.r.den) := bX.cell 3
      have y0 : W.cell? ⟨By, 0, none⟩ = some (.int .i64 p.2.b.num) := bY.cell 0
      have y1 : W.cell? ⟨By, 1, none⟩ = some (.int .i64 p.2.b.den) := bY.cell 1
      have y2 : W.cell? ⟨By, 2, none⟩ = some (.int .i64 p.2.r.num) := bY.cell 2
      have y3 : W.cell? ⟨By, 3, none⟩ = some (.int .i64 p.2.r.den) := bY.cell 3
      have hc := hv.cell
      have HAp := HAd.out p
      by_cases hka : oka p
      · rw [addV_ok hka] at HAp
        have hsn := cellsOf_snoc (pre.map addB) (addB p)
        rw [add_cells hka] at hsn
        generalize (p.1.b + p.2.b).num = sn at HAp hsn
        generalize ((p.1.b + p.2.b).den : Int) = sd at HAp hsn
        generalize (p.1.r + p.2.r).num = tn at HAp hsn
        generalize ((p.1.r + p.2.r).den : Int) = td at HAp hsn
        have HAp := Lib.hid HAp
        have hSn : Hid (cellsOf ((pre ++ [p]).map addB) = cellsOf (pre.map addB) ++ [.int .i64 sn, .int .i64 sd, .int .i64 tn, .int .i64 td]) := by unfold Hid; rw [List.map_append]; exact hsn
        have hone : ∀ u ∈ [Value.int .i64 sn, .int .i64 sd, .int .i64 tn, .int .i64 td], u.oneCell' = true := by
          intro u hu
          simp only [List.mem_cons, List.not_mem_nil, or_false] at hu
          rcases hu with rfl | rfl | rfl | rfl <;> rfl
        have hlt2 : pre.length < 32 := by omega
        clear hsn
        simp only [buckV, Buck.cells] at HAp ⊢
        gi_wp2_with fail
        refine ⟨trivial, ?_⟩
        (with_reducible refine (CallsIn.inRound l (HAp.out _)).mono ?_); rintro e w5 ⟨rfl, hb5⟩
        have hz5 := hb5.size
        have hv5 : Boxed w5 w4.heap.size 22 v := (hb5.block _ hv.lt).trans hv
        have ho5 := own_below hrow hb5
        have hc5 : w5.cell? ⟨w4.heap.size, 0, none⟩ = some v := hv5.cell
        have k5v : w4.heap.size < w5.heap.size := hv5.lt
        have hNew : ((w5.alloc (.cells #[.int .i64 sn, .int .i64 sd, .int .i64 tn, .int .i64 td] 80)).alloc (.cells #[.int .i64 sn, .int .i64 sd, .int .i64 tn, .int .i64 td] 80)).heap[w5.heap.size + 1]? = some (.cells #[.int .i64 sn, .int .i64 sd, .int .i64 tn, .int .i64 td] 80 (0, 0)) := by simpa using heap_alloc_new (w5.alloc (.cells #[.int .i64 sn, .int .i64 sd, .int .i64 tn, .int .i64 td] 80)) (.cells #[.int .i64 sn, .int .i64 sd, .int .i64 tn, .int .i64 td] 80)
        have hNews := Lib.hid (World.news_of_block hNew)
        have hrow3 := (ho5.alloc (.cells #[.int .i64 sn, .int .i64 sd, .int .i64 tn, .int .i64 td] 80)).alloc (.cells #[.int .i64 sn, .int .i64 sd, .int .i64 tn, .int .i64 td] 80)
        have hv3 := (hv5.alloc (.cells #[.int .i64 sn, .int .i64 sd, .int .i64 tn, .int .i64 td] 80)).alloc (.cells #[.int .i64 sn, .int .i64 sd, .int .i64 tn, .int .i64 td] 80)
        clear hNew
        gi_wp2_with (gi_at_builtin; refine wpListIn_append_at _ rfl _ _ 22 rfl w4.heap.size 80 i0 _ 4 32 Tryz.underlying22 hi hz0 hz1 hz2 rfl (by decide) _ _ _ rfl hrow3 ⟨w5.heap.size + 1, 0, none⟩ 1 1 [.int .i64 sn, .int .i64 sd, .int .i64 tn, .int .i64 td] rfl rfl hNews.out hone (by unfold maxLen; omega) (by omega) (by simp; omega) ?_; intro v' w6 hown' hgrow hat; obtain ⟨g', cap', rfl⟩ := ownsRow_succ hown'; obtain ⟨hv1, hv2, hr2, hk2, hb2⟩ := (hv5.alloc (.cells #[.int .i64 sn, .int .i64 sd, .int .i64 tn, .int .i64 td] 80)).appended (by decide) (ho5.alloc (.cells #[.int .i64 sn, .int .i64 sd, .int .i64 tn, .int .i64 td] 80)) (by simp; omega) (Nat.le_refl _) hown' hgrow; have hc1 := hv1.cell; have hf1 := hv1.frozen)
        have hBW : Below w4.heap.size W (w6.setCell ⟨w4.heap.size, 0, none⟩ (.slice (some ⟨g', 0, none⟩) (pre.length + 1) cap')) := (hb5.mono (by omega)).trans (((Below.refl _ _).alloc (by omega) _).trans hb2)
        have hAA : Below w5.heap.size w5 ((w5.alloc (.cells #[.int .i64 sn, .int .i64 sd, .int .i64 tn, .int .i64 td] 80)).alloc (.cells #[.int .i64 sn, .int .i64 sd, .int .i64 tn, .int .i64 td] 80)) := ((Below.refl _ _).alloc (Nat.le_refl _) _).alloc (by simp) _
        refine ⟨(keepsFrom_below hb5).trans (((KeepsOthers.alloc _ _).trans hk2).from _), ⟨hBW, (Kf.below hb5 hv.lt).trans ((Kf.below hAA k5v).trans (Kf.app hv3 (by decide) hrow3 hown' hgrow hat))⟩, ⟨⟨_, hv2, ?_, by simp⟩, ?_⟩, hB.trans hBW⟩
        · rw [hSn.out, List.length_append]; exact hr2
        · intro q hq
          rcases List.mem_append.1 hq with hq | hq
          · exact hok q hq
          · simp at hq; subst hq; exact hka
      · rw [addV_no hka] at HAp
        have HAp := Lib.hid HAp
        simp only [buckV, Buck.cells] at HAp ⊢
        gi_wp2_with fail
        refine ⟨trivial, ?_⟩
        (with_reducible refine (CallsIn.inRound l (HAp.out _)).mono ?_); rintro e w5 ⟨rfl, hb5⟩
        have q4 := (b4.below hB (by omega)).below hb5 (by omega)
        have q5 := (b5.below hB (by omega)).below hb5 (by omega)
        have c4 : w5.cell? ⟨w.heap.size, 0, none⟩ = some (.slice none 0 0) := q4.cell 0
        have c5 : w5.cell? ⟨w.heap.size + 1, 0, none⟩ = some (.int .i64 0) := q5.cell 0
        have f4 := q4.frozen 0
        have f5 := q5.frozen 0
        have k4 := q4.lt
        have k5 := q5.lt
        gi_wp2
        refine ⟨?_, ⟨⟨rfl, p, by simp, hka⟩, (res2 _ _ q4 q5 (by omega)).1.alloc _, (res2 _ _ q4 q5 (by omega)).2.alloc _⟩, ?_⟩
        · exact (keepsFrom_below hb5).trans ((((KeepsOthers.setCell _ _ _).trans (KeepsOthers.setCell _ _ _)).trans (KeepsOthers.alloc _ _)).from _)
        · have hBw : Below w.heap.size w w5 := hB0.trans ((hB.mono bz).trans (hb5.mono (by omega)))
          exact ((hBw.setCell (p := ⟨w.heap.size, 0, none⟩) (Nat.le_refl _) _).setCell (p := ⟨w.heap.size + 1, 0, none⟩) (by simp) _).alloc (by simp [World.setCell]; omega) _
    case done =>
      rintro D ys W hD rfl ⟨⟨⟨v, hv, hrow, hnil⟩, hok⟩, hB⟩ hK
      have hWz := hB.size
      have hc := hv.cell
      have hO : Own4 w4.heap.size W v ((pairsL na nb).map addB) := ⟨by rw [List.length_map]; exact hrow, by rw [List.map_eq_nil_iff]; exact hnil⟩
      obtain ⟨A', c', rfl⟩ := hO.form
      have hN := (normal_any A' c' ((pairsL na nb).map addB) (by rw [List.length_map]; omega) W hO.sl).mono (R' := fun e w' => ∃ v, e = .returned v ∧ Own4 W.heap.size w' v (normL ((pairsL na nb).map addB)) ∧ Below W.heap.size W w') fun e w' ⟨v, h1, h2, h3, h4⟩ => ⟨v, h1, ⟨h2, h3⟩, h4⟩
      have HN := callsIn_wide (n := 8).2 hN
      have q4 := b4.below hB (by omega)
      have q5 := b5.below hB (by omega)
      have Hok := Lib.hid hok
      have hBw : Below w.heap.size w W := hB0.trans (hB.mono bz)
      clear hN hO hrow hnil hok
      generalize hPL : (pairsL na nb).map addB = PL at *
      have HPL := Lib.hid hPL
      clear hPL
      gi_wp2_with fail
      refine ⟨trivial, ?_⟩
      (with_reducible refine HN.mono ?_); rintro e w6 ⟨v6, rfl, ho6, hb6⟩
      obtain ⟨A6, cc6, rfl⟩ := ho6.form
      have p4 := q4.below hb6 q4.lt
      have p5 := q5.below hb6 q5.lt
      have c4 : w6.cell? ⟨w.heap.size, 0, none⟩ = some (.slice none 0 0) := p4.cell 0
      have c5 : w6.cell? ⟨w.heap.size + 1, 0, none⟩ = some (.int .i64 0) := p5.cell 0
      have f4 := p4.frozen 0
      have f5 := p5.frozen 0
      have k4 := p4.lt
      have k5 := p5.lt
      have hDl : D < W.heap.size := (Array.getElem?_eq_some_iff.1 hK).1
      have hK6 : w6.heap[D]? = some (.deferred (some [])) := (hb6.block D hDl).trans hK
      have hKs : ((w6.setCell ⟨w.heap.size, 0, none⟩ (.slice A6 (normL PL).length cc6)).setCell ⟨w.heap.size + 1, 0, none⟩ (.int .i64 0)).heap[D]? = some (.deferred (some [])) :=
        (Below.heap_setCell _ _ _ D (by simp; omega)).trans ((Below.heap_setCell _ _ _ D (by simp; omega)).trans hK6)
      obtain ⟨r4, r5⟩ := res2 (.slice A6 (normL PL).length cc6) (.int .i64 0) p4 p5 (by omega)
      have ho7 : Own4 W.heap.size (((w6.setCell ⟨w.heap.size, 0, none⟩ (.slice A6 (normL PL).length cc6)).setCell ⟨w.heap.size + 1, 0, none⟩ (.int .i64 0)).putObj D (.deferred none)) (.slice A6 (normL PL).length cc6) (normL PL) :=
        ho6.same fun g hg => (World.putObj_heap_other (by omega)).trans ((Below.heap_setCell _ _ _ g (by simp; omega)).trans (Below.heap_setCell _ _ _ g (by simp; omega)))
      have s4 := Lib.hid ((cell_same (World.putObj_heap_other (w := (w6.setCell ⟨w.heap.size, 0, none⟩ (.slice A6 (normL PL).length cc6)).setCell ⟨w.heap.size + 1, 0, none⟩ (.int .i64 0)) (o := .deferred none) (show w.heap.size ≠ D by omega)) 0).trans (r4.cell 0))
      have s5 := Lib.hid ((cell_same (World.putObj_heap_other (w := (w6.setCell ⟨w.heap.size, 0, none⟩ (.slice A6 (normL PL).length cc6)).setCell ⟨w.heap.size + 1, 0, none⟩ (.int .i64 0)) (o := .deferred none) (show w.heap.size + 1 ≠ D by omega)) 0).trans (r5.cell 0))
      have HKs := Lib.hid hKs
      have Ho7 := Lib.hid (ho7.base hBw.size)
      clear hKs ho7 r4 r5 ho6
      gi_wp2
      refine ⟨by simp, .inl ⟨_, _, rfl, run_takeDeferred HKs.out, ?_⟩⟩
      refine ⟨.tuple #[.slice A6 (normL PL).length cc6, .int .i64 0], by simp [results, Tryz.f21, go_sem, s4.out, s5.out], fun h => absurd h (by omega), fun _ h => absurd Hok.out h, fun _ _ => ⟨_, rfl, by rw [HPL.out]; exact Ho7.out⟩, ?_⟩
      have hB6 : Below w.heap.size w w6 := hBw.trans (hb6.mono hBw.size)
      exact ((hB6.setCell (p := ⟨w.heap.size, 0, none⟩) (Nat.le_refl _) _).setCell (p := ⟨w.heap.size + 1, 0, none⟩) (by simp) _).trans (belowK_b (w := w) (Nat.le_refl _) _ D _ _ (by omega) HKs.out rfl rfl)
    case stop =>
      rintro D c pre W hD hpre ⟨⟨⟨rfl, p, hp, hnok⟩, q4, q5⟩, hB⟩ hK
      have hno : ¬ ∀ p ∈ pairsL na nb, oka p := fun h => hnok (h p (hpre.subset hp))
      have r4 : (W.putObj D (.deferred none)).cell? ⟨w.heap.size, 0, none⟩ = some (.slice none 0 0) := (cell_same (World.putObj_heap_other (by omega)) 0).trans (q4.cell 0)
      have r5 : (W.putObj D (.deferred none)).cell? ⟨w.heap.size + 1, 0, none⟩ = some (.int .i64 3) := (cell_same (World.putObj_heap_other (by omega)) 0).trans (q5.cell 0)
      gi_wp2
      refine ⟨by simp, .inl ⟨_, _, rfl, run_takeDeferred hK, ?_⟩⟩
      refine ⟨.tuple #[.slice none 0 0, .int .i64 3], by simp [results, Tryz.f21, go_sem, r4, r5], fun h => absurd h (by omega), fun _ _ => rfl, fun _ h => absurd h hno, ?_⟩
      exact hB.trans (belowK_b (w := w) (Nat.le_refl _) W D _ _ (by omega) hK rfl rfl)
end Go.Proofs.YtaanhddgmiggfaaGreat
