/- The contract of Join. -/
import Derived.Test.YthjpcafnbniafaaEach
import Derived.Lib.AppendStr
namespace Go.Proofs.Ythjpcafnbniafaa
open Go.RowKit Go.Joins
attribute [local go_sem] Oper.semAt_some

/-- Texts, separated by single spaces. -/
def jn (l : List (List (BitVec 8))) : List (BitVec 8) := (l.flatMap fun s => 32#8 :: s).drop 1
theorem jn_one (s : List (BitVec 8)) : jn [s] = s := by simp [jn]
theorem jn_snoc (l : List (List (BitVec 8))) (s : List (BitVec 8)) (h : l ≠ []) : jn (l ++ [s]) = jn l ++ [32#8] ++ s := by
  unfold jn
  rw [List.flatMap_append, List.drop_append_of_le_length]
  · simp
  · cases l with
    | nil => exact absurd rfl h
    | cons a l => simp
theorem jn_pre {l m : List (List (BitVec 8))} (h : l <+: m) : (jn l).length ≤ (jn m).length := by
  obtain ⟨t, rfl⟩ := h
  unfold jn
  rw [List.flatMap_append, List.length_drop, List.length_drop, List.length_append]
  omega

theorem strCells_bstr (m : List (BitVec 8)) : Lib.strCells (bstr m) = cellsB m := by
  simp [Lib.strCells, bstr, cellsB]

theorem wpListIn_append_str {F : Fence} {n : Nat} {P : Program} (w : World) {ops : Array Oper} {rest : List Oper} {o : Oper} {a : Act} {Q : Exit → Act → World → Prop}
    (hg : o.guard = none) (s x : Operand) (t u : TypeId) (hop : o.op = Op.call { callee := Callee.builtin Builtin.append, args := #[s, x], argTypes := #[t, u] })
    (base : Nat) (e : TypeId) (i : TypeInfo) (h1 : P.underlying t = some (.slice e)) (hu : P.underlying u = some .string) (h2 : P.info? e = some i) (h3 : i.zero = some (.int .u8 0)) (h4 : i.size = 1) (h5 : i.bytes = 1)
    (v : Value) (k : Nat) (xs : List Value) (hs : a.eval s = v) (hown : w.ownsRow base e 1 v k xs) (S : ByteArray) (hx : a.eval x = .string S) (b1 : k + S.size ≤ maxLen) (b2 : k + S.size ≤ 140737488355328) (b3 : base ≤ w.heap.size)
    (hK : ∀ v' w', w'.ownsRow base e 1 v' (k + S.size) (xs ++ Lib.strCells S) → w.grownBy w' v.ownBlock → wpListIn F n P ops Q rest (a.put o.dst v') w') :
    wpListIn F n P ops Q (o :: rest) a w := by
  refine wpListIn_plain hg fun K hK' => ?_
  obtain ⟨v', w', hrun, r1, r2, _⟩ := Lib.run_append_own_string (P := P) w base t u o.type e i h1 hu h2 h3 h4 h5 v k xs hown S b1 b2 b3
  unfold Oper.wpIn
  refine ⟨?_, ?_⟩
  · simp [Oper.about, hop, resolve, Target.leads, Sem.run_pure]
  · rw [Oper.semAt_plain F _ _ (by rw [hop]; intro c hc'; cases hc')]
    simp [execOp, hop, resolve, invoke, builtin, hs, hx, hrun, Result.andThen]
    exact hK' _ _ (hK v' w' r1 r2)

/-- A row of the call's own has grown, and its box is set. -/
theorem own_step {W w5 : World} {g base : Nat} {t e : TypeId} {size n n' : Nat} {v v5 : Value} {xs ys : List Value} (hb : BoxN W g t #[v]) (ho : W.ownsRow base e size v n xs) (hg : g < base) (hbz : base ≤ W.heap.size) (hn5 : w5.ownsRow base e size v5 n' ys) (hg5 : W.grownBy w5 v.ownBlock) :
    w5.cell? ⟨g, 0, none⟩ = some v ∧ w5.frozen? ⟨g, 0, none⟩ = false ∧ g < w5.heap.size ∧ BoxN (w5.setCell ⟨g, 0, none⟩ v5) g t #[v5] ∧ (w5.setCell ⟨g, 0, none⟩ v5).ownsRow base e size v5 n' ys ∧
      (∀ k, k < base → k ≠ g → (w5.setCell ⟨g, 0, none⟩ v5).heap[k]? = W.heap[k]?) ∧ W.heap.size ≤ (w5.setCell ⟨g, 0, none⟩ v5).heap.size ∧ (∀ n0 w0, n0 ≤ g → Below n0 w0 W → Below n0 w0 (w5.setCell ⟨g, 0, none⟩ v5)) ∧ (∀ k, k < W.heap.size → v.ownBlock ≠ some k → w5.heap[k]? = W.heap[k]?) := by
  have hbk0 := own_block_le ho
  have hbk : ∀ k, k < base → w5.heap[k]? = W.heap[k]? := fun k hk => hg5.block k (by omega) (fun e => by have := hbk0 _ e.symm; omega)
  have hb5 : BoxN w5 g t #[v] := (hbk g hg).trans hb
  have hsz := hg5.size
  refine ⟨by rw [hb5.cell 0]; rfl, hb5.frozen 0, hb5.lt, hb5.set1 0 v5, own_far hn5 (by simpa using hg) v5, fun k hk hkg => ?_, by simpa using hsz, fun n0 w0 hn h => ?_, fun k hk hne => hg5.block k hk (fun e => hne e.symm)⟩
  · rw [Below.heap_setCell w5 _ _ k hkg]; exact hbk k hk
  · exact (h.grown hg5 (by omega) (fun k e => by have := hbk0 _ e; omega)).setCell hn v5

theorem own_type {w : World} {base : Nat} {e : TypeId} {size n : Nat} {v : Value} {xs : List Value} (h : w.ownsRow base e size v n xs) {k : Nat} (hk : v.ownBlock = some k) : ∃ cur, BoxN w k e cur := by
  rcases h.2 with ⟨rfl, _⟩ | ⟨g, cap, cur, rfl, _, hg, _⟩
  · cases hk
  · cases hk; exact ⟨cur, hg⟩
theorem own_ne {w : World} {base : Nat} {e t : TypeId} {size n : Nat} {v : Value} {xs : List Value} (h : w.ownsRow base e size v n xs) {k : Nat} {cs : Array Value} (hb : BoxN w k t cs) (hne : e ≠ t) : v.ownBlock ≠ some k := fun hk => by
  obtain ⟨cur, hc⟩ := own_type h hk
  have h1 : w.heap[k]? = some (.cells cur e (0, 0)) := hc
  have h2 : w.heap[k]? = some (.cells cs t (0, 0)) := hb
  rw [h2] at h1
  simp only [Option.some.injEq, Obj.cells.injEq] at h1
  exact hne h1.2.1.symm

def tx (p : RTk × Nat) : List (BitVec 8) := p.1.s
theorem tx_all (L : List RTk) : L.zipIdx.map tx = L.map (·.s) := by
  have : L.zipIdx.map tx = (L.zipIdx.map Prod.fst).map (·.s) := by rw [List.map_map]; rfl
  rw [this, List.zipIdx_map_fst]

set_option maxRecDepth 100000 in
set_option maxHeartbeats 8000000 in
theorem join_any (A : Option Addr) (cap : Nat) (L : List RTk) (hL : L.length ≤ 1000000000) (hj : (jn (L.map (·.s))).length ≤ 1000000000) (w : World) (hrow : isT A L w) :
    Calls Try.prog 13 #[.slice A L.length cap] w fun e w' => e = .returned (.string (bstr (jn (L.map (·.s))))) ∧ Below w.heap.size w w' := by
  obtain ⟨i0, hi, hz0, hz1, hz2⟩ := info_parts infoB
  refine (callsIn_wide (n := 9)).1 ?_
  have hro : Fence.wide.round = none := rfl
  have hzb : ∀ w : World, (zeroValue 34).run Try.prog w = .ok (.slice none 0 0) w := fun _ => by kernel_rfl
  have hEa : Hid (∀ W : World, _) := fun W => each_any A L.length cap W
  refine callsIn_of_wp_marks Try.func13 rfl trivial ?_ hro
  simp only [Try.ntmps13, List.size_toArray, List.length_cons, List.length_nil, Nat.reduceAdd, Nat.reduceSub, Array.replicate_succ, Array.replicate_zero, List.push_toArray, List.append_toArray, List.nil_append, List.cons_append]
  gi_wp2_with fail
  refine ⟨trivial, ?_⟩
  (with_reducible refine (callsIn_wide.2 (hEa.out _)).mono ?_); rintro e w1 ⟨rfl, rfl⟩
  have bT : BoxN ((w.alloc (.cells #[.slice none 0 0] 34)).alloc (.cells #[.slice A L.length cap] 24)) w.heap.size 34 #[.slice none 0 0] := (BoxN.new _ _ _).alloc _
  have bE : BoxN ((w.alloc (.cells #[.slice none 0 0] 34)).alloc (.cells #[.slice A L.length cap] 24)) (w.heap.size + 1) 24 #[.slice A L.length cap] := by
    have := BoxN.new (w.alloc (.cells #[.slice none 0 0] 34)) 24 #[.slice A L.length cap]
    simpa using this
  have hB : Below w.heap.size w ((w.alloc (.cells #[.slice none 0 0] 34)).alloc (.cells #[.slice A L.length cap] 24)) := ((Below.refl _ w).alloc (Nat.le_refl _) _).alloc (by simp) _
  have hsz : ((w.alloc (.cells #[.slice none 0 0] 34)).alloc (.cells #[.slice A L.length cap] 24)).heap.size = w.heap.size + 2 := by simp
  simp only [World.size_alloc]
  gi_wp2_with fail
  generalize (w.alloc (.cells #[.slice none 0 0] 34)).alloc (.cells #[.slice A L.length cap] 24) = W0 at bT bE hB hsz ⊢
  have hr0 := hrow.keep hB
  have hAb : ∀ a, L ≠ [] → A = some a → a.block < w.heap.size := fun a h e => by
    obtain ⟨b, off, e2, hb, _⟩ := hrow h
    rw [e] at e2
    cases e2; exact hb
  obtain ⟨g, hg⟩ : ∃ g, w.heap.size = g := ⟨_, rfl⟩
  have HG := Lib.hid hg
  rw [hg] at bT bE hB hsz hAb ⊢
  clear hg hrow hEa
  have hown : ∀ k, ownE (g + 1) A L k → k < g + 2 ∧ k ≠ g := by
    rintro k (rfl | ⟨h1, a, h2, rfl⟩)
    · omega
    · have := hAb a h1 h2; omega
  refine wpIn_handsC hro (by decide) (gf := 35) (rb := #[]) (lb := #[.pointer (some ⟨g + 1, 0, none⟩)]) rfl trivial (enters_of Try.func35 (by kernel_rfl) rfl)
    (each_hands 8 (by decide) (g + 1) A cap L hL W0 bE hr0) (fun W1 h => ⟨bE.keep h, hr0.keep h⟩) (Below.refl _ _) (by omega) (fun k h => by have := hown k h; omega) (fun _ => rfl)
    (fun pre W => (∃ v, BoxN W g 34 #[v] ∧ W.ownsRow (g + 4) 5 1 v (jn (pre.map tx)).length (cellsB (jn (pre.map tx)))) ∧ Below g w W)
    (fun _ => False) ?hI (fun _ _ h _ => h.elim) ?hIp (fun _ _ h => h.elim) ?h0
    (fun x a' W => ∃ Bx, g + 4 ≤ Bx ∧ BoxN W Bx 27 #[.int .u8 x.1.k, .string (bstr x.1.s), .int .i64 x.1.o] ∧ a' = { tmps := #[.slice A L.length cap, undef, .string ⟨#[]⟩, .pointer (some ⟨g, 0, none⟩), .int .i64 x.2, .pointer (some ⟨Bx, 0, none⟩), .slice A L.length cap, .func (.func 35) #[] #[.pointer (some ⟨g + 1, 0, none⟩)], .int .i64 x.2, rtkV x.1, undef, undef, undef, undef, undef, undef, undef, undef, undef, undef, undef], defers := [] })
    ?hAx ?assign ?body ?done (fun _ _ _ h _ => h.elim)
  case hI =>
    rintro s X Y ⟨⟨v, h1, h2⟩, h3⟩ hk hv
    exact ⟨⟨v, h1.it hk (by omega), own_it h2 hk (by omega)⟩, h3.trans (hk.below' (by omega))⟩
  case hIp =>
    rintro s X o ⟨⟨v, h1, h2⟩, h3⟩
    rw [hsz]
    exact ⟨⟨v, h1.put (by omega) o, own_putO h2 (by omega) o⟩, Below.put h3 (by omega) o⟩
  case h0 => exact ⟨⟨_, bT, rfl, .inl ⟨rfl, rfl⟩⟩, hB⟩
  case hAx =>
    rintro x a' X o ⟨Bx, h1, h2, h3⟩
    rw [hsz]
    exact ⟨Bx, h1, h2.put (by omega) o, h3⟩
  case assign =>
    rintro lp pre x W K hI hWz hpre hK
    unfold encE at hK ⊢
    have hK' := Lib.hid hK
    clear hK
    gi_wp2_with fail
    obtain ⟨⟨v, h1, h2⟩, h3⟩ := hI
    refine hK'.out _ _ (Kc.alloc W _ ?_) ⟨⟨v, h1.alloc _, h2.alloc _⟩, h3.alloc (by omega) _⟩ ⟨W.heap.size, by omega, BoxN.new W _ _, rfl⟩
    rintro k (h | rfl | rfl)
    · have := hown k h; omega
    · omega
    · omega
  case body =>
    rintro lp pre x a' W hWz ⟨⟨v, h1, h2⟩, h3⟩ ⟨Bx, hBx, hX, rfl⟩ hpre
    have hxi : x.2 = pre.length := by
      obtain ⟨t, ht⟩ := hpre
      have h := List.getElem?_zipIdx (l := L) (i := 0) (j := pre.length)
      rw [← ht, List.append_assoc, List.getElem?_append_right (Nat.le_refl _), Nat.sub_self] at h
      cases hL' : L[pre.length]? with
      | none => rw [hL'] at h; simp at h
      | some y => rw [hL'] at h; simp at h; rw [h]
    have hlen : (jn ((pre ++ [x]).map tx)).length ≤ 1000000000 := by
      have := jn_pre (hpre.map tx)
      rw [tx_all] at this
      omega
    have hkc : ∀ V : World, W.heap.size ≤ V.heap.size → (∀ k, k < g + 4 → k ≠ g → V.heap[k]? = W.heap[k]?) → Kc (ownR (ownE (g + 1) A L) W0.heap.size) W V := fun V hz hv => ⟨hz, fun k hk => by
      rcases hk with h | rfl | rfl
      · have := hown k h; exact hv k (by omega) (by omega)
      · exact hv _ (by omega) (by omega)
      · exact hv _ (by omega) (by omega)⟩
    have hSz := bstr_size x.1.s
    have hSc := strCells_bstr x.1.s
    have c1 := hX.cell 1
    have hXl := hX.lt
    simp at c1
    have cv := h1.cell 0
    have fv := h1.frozen 0
    have gl := h1.lt
    simp at cv
    have hgB : g ≠ Bx := by omega
    rw [hxi]
    by_cases hp : pre = []
    · subst hp
      have hfin : jn (([] ++ [x]).map tx) = x.1.s := jn_one _
      rw [hfin] at hlen
      have e0 : jn (([] : List (RTk × Nat)).map tx) = [] := rfl
      rw [e0] at h2
      obtain ⟨n0, hn0⟩ : ∃ n0, ([] : List (BitVec 8)).length = n0 := ⟨_, rfl⟩
      rw [hn0] at h2
      have HSz := Lib.hid hSz
      have Hn0 : n0 = 0 := hn0.symm
      have HN0 := Lib.hid Hn0
      have HS : Hid (∀ (v5 : Value) (w5 : World), w5.ownsRow (g + 4) 5 1 v5 (n0 + (bstr x.1.s).size) ([] ++ Lib.strCells (bstr x.1.s)) → W.grownBy w5 v.ownBlock →
          w5.cell? ⟨g, 0, none⟩ = some v ∧ w5.frozen? ⟨g, 0, none⟩ = false ∧ g < w5.heap.size ∧ (Kc (ownR (ownE (g + 1) A L) W0.heap.size) W (w5.setCell ⟨g, 0, none⟩ v5) ∧ (∃ v, BoxN (w5.setCell ⟨g, 0, none⟩ v5) g 34 #[v] ∧ (w5.setCell ⟨g, 0, none⟩ v5).ownsRow (g + 4) 5 1 v (jn (([] ++ [x]).map tx)).length (cellsB (jn (([] ++ [x]).map tx)))) ∧ Below g w (w5.setCell ⟨g, 0, none⟩ v5))) := fun v5 w5 hn5 hg5 => by
        obtain ⟨q1, q2, q3, q4, q5, q6, q7, q8, _⟩ := own_step h1 h2 (by omega) (by omega) hn5 hg5
        refine ⟨q1, q2, q3, hkc _ q7 q6, ⟨v5, q4, ?_⟩, q8 _ _ (Nat.le_refl _) h3⟩
        rw [hfin]
        rw [Hn0, Nat.zero_add, List.nil_append, hSz, hSc] at q5
        exact q5
      clear hkc hX h1 hpre h3 hSc hxi hfin e0 hSz Hn0 hn0
      simp only [List.length_nil, Int.natCast_zero] at cv ⊢
      have h2' := Lib.hid h2
      gi_wp2_with (gi_at_builtin; refine wpListIn_append_str _ rfl _ _ 34 9 rfl (g + 4) 5 i0 Try.underlying34 Try.underlying9 hi hz0 hz1 hz2 v n0 [] rfl h2'.out (bstr x.1.s) rfl (by rw [HSz.out, HN0.out]; unfold maxLen; omega) (by rw [HSz.out, HN0.out]; omega) (by omega) ?_; intro v5 w5 hn5 hg5; obtain ⟨hat5, hfr5, hl5, hF⟩ := HS.out v5 w5 hn5 hg5; obtain ⟨g5, cg5, rfl⟩ := own_slice hn5; have HF5 := Lib.hid hF; clear hF hn5 hg5)
      exact HF5.out
    · have hne : pre.map tx ≠ [] := by simpa using hp
      have hpos : 0 < pre.length := List.length_pos_iff.2 hp
      have hfin : jn ((pre ++ [x]).map tx) = jn (pre.map tx) ++ [32#8] ++ x.1.s := by rw [List.map_append]; exact jn_snoc _ _ hne
      rw [hfin] at hlen
      simp only [List.length_append, List.length_singleton] at hlen
      have hneB := own_ne h2 hX (by decide)
      generalize jn (pre.map tx) = m0 at *
      have h1a := h1.alloc (.cells #[.int .u8 32] 5)
      have h2a := h2.alloc (.cells #[.int .u8 32] 5)
      have h3a := h3.alloc (o := .cells #[.int .u8 32] 5) (by omega)
      have hNews := World.news_of_block (heap_alloc_new W (.cells #[.int .u8 32] 5))
      have HS1 : Hid (∀ (v5 : Value) (w5 : World), w5.ownsRow (g + 4) 5 1 v5 (m0.length + 1) (cellsB m0 ++ [.int .u8 32]) → (W.alloc (.cells #[.int .u8 32] 5)).grownBy w5 v.ownBlock →
          w5.cell? ⟨g, 0, none⟩ = some v ∧ w5.frozen? ⟨g, 0, none⟩ = false ∧ g < w5.heap.size ∧ w5.cell? ⟨Bx, 1, none⟩ = some (.string (bstr x.1.s)) ∧ (BoxN (w5.setCell ⟨g, 0, none⟩ v5) g 34 #[v5] ∧ (w5.setCell ⟨g, 0, none⟩ v5).ownsRow (g + 4) 5 1 v5 (m0.length + 1) (cellsB (m0 ++ [32#8])) ∧
            (∀ k, k < g + 4 → k ≠ g → (w5.setCell ⟨g, 0, none⟩ v5).heap[k]? = W.heap[k]?) ∧ W.heap.size ≤ (w5.setCell ⟨g, 0, none⟩ v5).heap.size ∧ Below g w (w5.setCell ⟨g, 0, none⟩ v5))) := fun v5 w5 hn5 hg5 => by
        obtain ⟨q1, q2, q3, q4, q5, q6, q7, q8, q9⟩ := own_step h1a h2a (by omega) (by simp; omega) hn5 hg5
        refine ⟨q1, q2, q3, ?_, q4, ?_, fun k hk hkg => (q6 k hk hkg).trans (heap_alloc_old W _ (by omega)), by simp at q7 ⊢; omega, q8 _ _ (Nat.le_refl _) h3a⟩
        · have hb := q9 Bx (by simp; omega) hneB
          rw [World.cell?_of_block (a := ⟨Bx, 1, none⟩) (hb.trans (heap_alloc_old W _ hXl))]
          exact c1
        · rw [cellsB_append]; exact q5
      have HS2 : Hid (∀ (V : World) (v4 : Value), BoxN V g 34 #[v4] → V.ownsRow (g + 4) 5 1 v4 (m0.length + 1) (cellsB (m0 ++ [32#8])) → (∀ k, k < g + 4 → k ≠ g → V.heap[k]? = W.heap[k]?) → W.heap.size ≤ V.heap.size → Below g w V →
          ∀ (v5 : Value) (w5 : World), w5.ownsRow (g + 4) 5 1 v5 (m0.length + 1 + (bstr x.1.s).size) (cellsB (m0 ++ [32#8]) ++ Lib.strCells (bstr x.1.s)) → V.grownBy w5 v4.ownBlock →
          w5.cell? ⟨g, 0, none⟩ = some v4 ∧ w5.frozen? ⟨g, 0, none⟩ = false ∧ g < w5.heap.size ∧ (Kc (ownR (ownE (g + 1) A L) W0.heap.size) W (w5.setCell ⟨g, 0, none⟩ v5) ∧ (∃ v, BoxN (w5.setCell ⟨g, 0, none⟩ v5) g 34 #[v] ∧ (w5.setCell ⟨g, 0, none⟩ v5).ownsRow (g + 4) 5 1 v (jn ((pre ++ [x]).map tx)).length (cellsB (jn ((pre ++ [x]).map tx)))) ∧ Below g w (w5.setCell ⟨g, 0, none⟩ v5))) := fun V v4 b1 b2 b3 b4 b5 v5 w5 hn5 hg5 => by
        obtain ⟨q1, q2, q3, q4, q5, q6, q7, q8, _⟩ := own_step b1 b2 (by omega) (by omega) hn5 hg5
        refine ⟨q1, q2, q3, hkc _ (Nat.le_trans b4 q7) (fun k hk hkg => (q6 k hk hkg).trans (b3 k hk hkg)), ⟨v5, q4, ?_⟩, q8 _ _ (Nat.le_refl _) b5⟩
        rw [hfin, cellsB_append]
        rw [hSz, hSc] at q5
        simp only [List.length_append, List.length_singleton]
        exact q5
      have hd : decide ((0 : Int) < (pre.length : Int)) = true := by simp; omega
      have Hlen := Lib.hid hlen
      have HSz := Lib.hid hSz
      clear hkc hX h1 hpre h3 hSc hxi hfin h1a h3a hne hneB h2 hSz
      gi_wp2_with (first | (gi_at_builtin; refine wpListIn_append_own _ rfl _ _ 34 rfl (g + 4) 5 i0 _ 1 1 Try.underlying34 hi hz0 hz1 hz2 rfl (by decide) v m0.length _ rfl h2a ⟨W.heap.size, 0, none⟩ 1 1 [.int .u8 32] rfl rfl hNews (by simp [Value.oneCell']) (by unfold maxLen; omega) (by omega) (by simp; omega) ?_; intro v5 w5 hn5 hg5 _; obtain ⟨hat5, hfr5, hl5, hcx5, hF⟩ := HS1.out v5 w5 hn5 hg5; obtain ⟨g5, cg5, rfl⟩ := own_slice hn5; have HF5 := Lib.hid hF; clear hF hn5 hg5 h2a hNews cv) | (gi_at_builtin; refine wpListIn_append_str _ rfl _ _ 34 9 rfl (g + 4) 5 i0 Try.underlying34 Try.underlying9 hi hz0 hz1 hz2 (.slice g5 (m0.length + 1) cg5) (m0.length + 1) _ rfl HF5.out.2.1 (bstr x.1.s) rfl (by rw [HSz.out]; unfold maxLen; have := Hlen.out; omega) (by rw [HSz.out]; have := Hlen.out; omega) (by have := HF5.out.2.2.2.1; omega) ?_; intro v6 w6 hn6 hg6; obtain ⟨hat6, hfr6, hl6, hF6⟩ := HS2.out _ _ HF5.out.1 HF5.out.2.1 HF5.out.2.2.1 HF5.out.2.2.2.1 HF5.out.2.2.2.2 v6 w6 hn6 hg6; obtain ⟨g6, cg6, rfl⟩ := own_slice hn6; have HF6 := Lib.hid hF6; clear hF6 hn6 hg6))
      exact HF6.out
  case done =>
    rintro Dk W rfl ⟨⟨v, h1, h2⟩, h3⟩ hK
    rw [tx_all] at h2
    obtain ⟨M, hM⟩ : ∃ M, jn (L.map (·.s)) = M := ⟨_, rfl⟩
    have HM := Lib.hid hM
    rw [hM] at h2
    obtain ⟨G, cg, rfl⟩ := own_slice h2
    have hst := str_run cg (isB_of_own h2)
    have cv := h1.cell 0
    have gl := h1.lt
    simp at cv
    have h3' : Hid (Below w.heap.size w W) := by unfold Hid; rw [HG.out]; exact h3
    clear hM h2 h1 bT bE hr0
    gi_wp2_with fail
    refine ⟨by simp, .inl ⟨_, _, rfl, run_takeDeferred hK, ?_⟩⟩
    exact ⟨.string (bstr M), by simp [results, Try.results13, go_sem], by rw [HM.out], Below.put h3'.out (by rw [HG.out]; omega) _⟩
end Go.Proofs.Ythjpcafnbniafaa
