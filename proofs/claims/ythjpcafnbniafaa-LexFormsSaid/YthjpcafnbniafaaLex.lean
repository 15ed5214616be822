/- The contract of Lex. -/
import Derived.Test.YthjpcafnbniafaaExam
namespace Go.Proofs.Ythjpcafnbniafaa
open Go.RowKit Go.Joins
attribute [local go_sem] Oper.semAt_some

theorem scan_spec : ∀ (n : Nat) (p : Nat) (l : List (BitVec 8)), (∀ x ∈ scanF n p l, ∃ c t, x.s = c :: t ∧ x.k = kd c ∧ t.length ≤ l.length) ∧ (scanF n p l).length ≤ n
  | 0, _, _ => ⟨fun _ h => (by cases h), Nat.le_refl _⟩
  | n + 1, p, l => by
    unfold scanF
    split
    · exact ⟨fun _ h => (by cases h), by simp⟩
    · rename_i c t he
      have hlen : (l.drop (skp false l)).length = t.length + 1 := by rw [he]; rfl
      rw [List.length_drop] at hlen
      obtain ⟨h1, h2⟩ := scan_spec n (p + skp false l + 1 + more c t) (t.drop (more c t))
      refine ⟨fun x hx => ?_, by simpa using h2⟩
      rcases List.mem_cons.1 hx with rfl | hx
      · exact ⟨c, _, rfl, rfl, by rw [List.length_take]; omega⟩
      · obtain ⟨c', t', e1, e2, e3⟩ := h1 x hx
        exact ⟨c', t', e1, e2, by rw [List.length_drop] at e3; omega⟩
theorem scan_mem {p : Nat} {l : List (BitVec 8)} {x : Tk} (h : x ∈ scan p l) : ∃ c t, x.s = c :: t ∧ x.k = kd c ∧ t.length ≤ l.length := (scan_spec _ _ _).1 x h
theorem scan_len (p : Nat) (l : List (BitVec 8)) : (scan p l).length ≤ l.length := (scan_spec _ _ _).2
theorem kd_le (c : BitVec 8) : kd c ≤ 3 := by unfold kd; split <;> (try split) <;> (try split) <;> omega

/-- Tokens as cells. -/
def cellT (x : Tk) : List Value := [.int .u8 x.k, .string (bstr x.s), .int .i64 x.o]
def cellsT (l : List Tk) : List Value := l.flatMap cellT
theorem cellsT_snoc (l : List Tk) (x : Tk) : cellsT (l ++ [x]) = cellsT l ++ [.int .u8 x.k, .string (bstr x.s), .int .i64 x.o] := by simp [cellsT, cellT]
theorem infoT : (Try.prog.info? 27).map (fun i => (i.zero, i.size, i.bytes)) = some (some (.agg #[.int .u8 0, .string ⟨#[]⟩, .int .i64 0]), 3, 32) := by kernel_rfl

theorem own_it {w w' : World} {base b : Nat} {e : TypeId} {size n : Nat} {v : Value} {xs : List Value} (h : w.ownsRow base e size v n xs) (hk : It b w w') (hb : b < base) : w'.ownsRow base e size v n xs := by
  obtain ⟨h1, h2⟩ := h
  refine ⟨h1, ?_⟩
  rcases h2 with h2 | ⟨g, cap, cur, e1, e2, e3, e4⟩
  · exact .inl h2
  · exact .inr ⟨g, cap, cur, e1, e2, (hk.far g (Array.getElem?_eq_some_iff.1 e3).1 (by omega)).trans e3, e4⟩
theorem own_putO {w : World} {base : Nat} {e : TypeId} {size n : Nat} {v : Value} {xs : List Value} (h : w.ownsRow base e size v n xs) {l : Nat} (hl : l < base) (o : Obj) : (w.putObj l o).ownsRow base e size v n xs := by
  obtain ⟨h1, h2⟩ := h
  refine ⟨h1, ?_⟩
  rcases h2 with h2 | ⟨g, cap, cur, e1, e2, e3, e4⟩
  · exact .inl h2
  · exact .inr ⟨g, cap, cur, e1, e2, (World.putObj_heap_other (by omega)).trans e3, e4⟩
theorem own_far {w : World} {base : Nat} {e : TypeId} {size n : Nat} {v : Value} {xs : List Value} (h : w.ownsRow base e size v n xs) {p : Addr} (hp : p.block < base) (u : Value) : (w.setCell p u).ownsRow base e size v n xs := by
  obtain ⟨h1, h2⟩ := h
  refine ⟨h1, ?_⟩
  rcases h2 with h2 | ⟨g, cap, cur, e1, e2, e3, e4⟩
  · exact .inl h2
  · exact .inr ⟨g, cap, cur, e1, e2, (Below.heap_setCell w p u g (by omega)).trans e3, e4⟩
theorem BoxN.put {W : World} {B : Nat} {t : TypeId} {cs : Array Value} (h : BoxN W B t cs) {l : Nat} (hl : B ≠ l) (o : Obj) : BoxN (W.putObj l o) B t cs := (World.putObj_heap_other hl).trans h
theorem ScB.put {W : World} {b f1 f2 k : Nat} {l : List (BitVec 8)} (h : ScB W b f1 f2 l k) {i : Nat} (hb : b ≠ i) (h1 : f1 ≠ i) (h2 : f2 ≠ i) (o : Obj) : ScB (W.putObj i o) b f1 f2 l k :=
  ⟨h.s.put hb o, h.x1.put h1 o, h.x2.put h2 o, h.n1, h.n2⟩
theorem Below.put {B : Nat} {A W : World} (h : Below B A W) {l : Nat} (hl : B ≤ l) (o : Obj) : Below B A (W.putObj l o) :=
  h.trans ⟨rfl, rfl, rfl, by simp, fun k hk => World.putObj_heap_other (by omega)⟩
theorem find_none {p : Tk → Bool} : ∀ {L : List Tk}, L.find? p = none → L.any p = false
  | [], _ => rfl
  | x :: L, h => by
    cases hx : p x with
    | true => simp [hx] at h
    | false => rw [List.any_cons, hx, Bool.false_or]; exact find_none (by simpa [hx] using h)

theorem results_c3 {P : Program} {fn : Func} {p u v : Tmp} {t1 t2 t3 : TypeId} (h : fn.results = #[.cell p t1, .cell u t2, .cell v t3]) (tmps : Array Value) (w : World) (b1 b2 b3 : Nat) (x1 x2 x3 : Value)
    (h1 : tmps.getD p undef = .pointer (some ⟨b1, 0, none⟩)) (h2 : tmps.getD u undef = .pointer (some ⟨b2, 0, none⟩)) (h3 : tmps.getD v undef = .pointer (some ⟨b3, 0, none⟩))
    {s1 s2 s3 : TypeId} (c1 : BoxN w b1 s1 #[x1]) (c2 : BoxN w b2 s2 #[x2]) (c3 : BoxN w b3 s3 #[x3]) (k1 : (isAgg t1).run P w = .ok false w) (k2 : (isAgg t2).run P w = .ok false w) (k3 : (isAgg t3).run P w = .ok false w) :
    (results fn tmps).run P w = .ok (.tuple #[x1, x2, x3]) w := by
  have h1' : tmps[p]?.getD undef = .pointer (some ⟨b1, 0, none⟩) := by simpa using h1
  have h2' : tmps[u]?.getD undef = .pointer (some ⟨b2, 0, none⟩) := by simpa using h2
  have h3' : tmps[v]?.getD undef = .pointer (some ⟨b3, 0, none⟩) := by simpa using h3
  have e1 := c1.cell 0
  have e2 := c2.cell 0
  have e3 := c3.cell 0
  simp at e1 e2 e3
  have l1 : (loadVar t1 ⟨b1, 0, none⟩).run P w = .ok x1 w := by
    unfold loadVar; simp only [Sem.run_bind, k1, Result.andThen_ok]; simp [go_sem, e1]
  have l2 : (loadVar t2 ⟨b2, 0, none⟩).run P w = .ok x2 w := by
    unfold loadVar; simp only [Sem.run_bind, k2, Result.andThen_ok]; simp [go_sem, e2]
  have l3 : (loadVar t3 ⟨b3, 0, none⟩).run P w = .ok x3 w := by
    unfold loadVar; simp only [Sem.run_bind, k3, Result.andThen_ok]; simp [go_sem, e3]
  simp [results, h, h1', h2', h3', asAddr, l1, l2, l3]

theorem ag1 (w : World) : (isAgg 24).run Try.prog w = .ok false w := by simp [isAgg, run_underlying Try.underlying24]
theorem ag2 (w : World) : (isAgg 3).run Try.prog w = .ok false w := by simp [isAgg, run_underlying Try.underlying3]
theorem ag3 (w : World) : (isAgg 38).run Try.prog w = .ok false w := by simp [isAgg, run_underlying Try.underlying38]

/-- What Lex answers. -/
def LexPost (l : List (BitVec 8)) (w : World) (e : Ending) (w' : World) : Prop :=
  ∃ G c, e = .returned (.tuple #[.slice G (lexT l).length c, .int .i64 (lexO l), .int .i64 (lexE l)]) ∧ w'.ownsRow w.heap.size 27 3 (.slice G (lexT l).length c) (lexT l).length (cellsT (lexT l)) ∧ Below w.heap.size w w'
theorem zero_tk : ∀ w : World, (zeroValue 24).run Try.prog w = .ok (.slice none 0 0) w := fun _ => by kernel_rfl

set_option maxRecDepth 100000 in
set_option maxHeartbeats 4000000 in
theorem lex_long (l : List (BitVec 8)) (hl : 65536 < l.length) (w : World) :
    Calls Try.prog 18 #[.string (bstr l)] w (LexPost l w) := by
  have hbs := bstr_size l
  have hT : lexT l = [] := by unfold lexT; rw [if_pos (.inl hl)]
  have hO : lexO l = 0 := by unfold lexO; rw [if_pos hl]
  have hE : lexE l = 3 := by unfold lexE; rw [if_pos hl]
  have hP : Hid (∀ e w', e = .returned (.tuple #[.slice none 0 0, .int .i64 0, .int .i64 3]) ∧ Below w.heap.size w w' → LexPost l w e w') := fun e w' ⟨h1, h2⟩ => by
    refine ⟨none, 0, ?_, ?_, h2⟩
    · rw [hT, hO, hE]; exact h1
    · rw [hT]; exact ⟨rfl, .inl ⟨rfl, rfl⟩⟩
  have hd : decide ((65536 : Int) < l.length) = true := by simp; omega
  generalize bstr l = S at hbs ⊢
  generalize LexPost l w = PP at hP ⊢
  have hzk := zero_tk
  clear hT hO hE
  go_enter Try.func18, Try.ntmps18
  go_wp2_with fail
  have r0 := ((BoxN.new w 24 #[.slice none 0 0]).alloc (.cells #[.int .i64 0] 3)).alloc (.cells #[.int .i64 3] 38)
  have r1 := (BoxN.new (w.alloc (.cells #[.slice none 0 0] 24)) 3 #[.int .i64 0]).alloc (.cells #[.int .i64 3] 38)
  have r2 := BoxN.new ((w.alloc (.cells #[.slice none 0 0] 24)).alloc (.cells #[.int .i64 0] 3)) 38 #[.int .i64 3]
  simp only [World.size_alloc] at r1 r2
  have hB : Below w.heap.size w (((w.alloc (.cells #[.slice none 0 0] 24)).alloc (.cells #[.int .i64 0] 3)).alloc (.cells #[.int .i64 3] 38)) :=
    (((Below.refl _ w).alloc (Nat.le_refl _) _).alloc (by simp) _).alloc (by simp; omega) _
  generalize ((w.alloc (.cells #[.slice none 0 0] 24)).alloc (.cells #[.int .i64 0] 3)).alloc (.cells #[.int .i64 3] 38) = W at r0 r1 r2 hB ⊢
  exact bodyPost_ret (results_c3 Try.results18 _ W _ _ _ _ _ _ rfl rfl rfl r0 r1 r2 (ag1 _) (ag2 _) (ag3 _)) rfl (hP.out _ _ ⟨rfl, hB⟩)
end Go.Proofs.Ythjpcafnbniafaa
