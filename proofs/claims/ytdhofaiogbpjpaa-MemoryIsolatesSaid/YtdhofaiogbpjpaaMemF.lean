/- Load, Store, Clear and Bytes of a memory that New made. -/
import Derived.Test.YtdhofaiogbpjpaaMemS
namespace Go.Proofs.Ytdhofaiogbpjpaa
open Go.RowKit Go.Joins
namespace Me
theorem tr_cases {L : List Rg} {mem : Nat} (hv : Vld L mem) (part addr : Int) : (∃ e : Int, trR L part addr = (0, e) ∧ (e != 0) = true) ∨ ∃ x : Nat, trR L part addr = ((x : Int), 0) ∧ x < 4096 := by
  unfold trR
  cases hf : L.find? (fun r => r.p == part) with
  | none => exact .inl ⟨6, rfl, rfl⟩
  | some r =>
    by_cases h : addr < 0 ∨ r.s ≤ addr
    · exact .inl ⟨110, by simp only; rw [if_pos h], rfl⟩
    · obtain ⟨j, hj⟩ := List.getElem?_of_mem (List.mem_of_find?_eq_some hf)
      have hfit := (hv.2.2 j r (List.getElem?_eq_some_iff.1 hj).1 hj).2.1
      rw [fitR_iff] at hfit
      have hm := hv.1
      unfold szOk at hm
      simp at hm
      refine .inr ⟨(r.b + addr).toNat, ?_, by omega⟩
      simp only
      rw [if_neg h, IntWalk.wrap64_in _ (by omega)]
      congr 1
      omega
set_option maxRecDepth 100000 in
theorem made_any {lo g : Nat} {L : List Rg} {mem : Nat} {f : Nat → BitVec 8} (w : World) (h : MemS lo g L mem f w) : Calls Try.prog 42 #[.pointer (some ⟨g, 0, none⟩)] w fun e w' => e = .returned (.bool true) ∧ w' = w := by
  obtain ⟨cs, A, c, h1, h2, -, -⟩ := h.ex
  have hl := h1.lt
  have c1 := h1.cell 1
  rw [h2.made] at c1
  clear h1 h2 h
  go_enter Try.func42, Try.ntmps42
  go_wp2_with fail
  go_ret
  exact ⟨rfl, rfl⟩
set_option maxRecDepth 100000 in
set_option maxHeartbeats 2000000 in
theorem cell_any {lo g : Nat} {L : List Rg} {mem : Nat} {f : Nat → BitVec 8} (hv : Vld L mem) (part addr : Int) (w : World) (h : MemS lo g L mem f w) : Calls Try.prog 41 #[.pointer (some ⟨g, 0, none⟩), .int .i64 part, .int .i64 addr] w fun e w' => ((∃ er : Int, trR L part addr = (0, er) ∧ (er != 0) = true ∧ e = .returned (.tuple #[.pointer none, .int .i64 er])) ∨ ∃ x : Nat, trR L part addr = ((x : Int), 0) ∧ x < 4096 ∧ e = .returned (.tuple #[.pointer (some ⟨g, 3 + x, none⟩), .int .i64 0])) ∧ Below w.heap.size w w' := by
  have HM := Lib.hid (made_any w h)
  obtain ⟨cs, A, c, h1, h2, h3, -⟩ := h.ex
  have hl := h1.lt
  have c0 := h1.cell 0
  rw [h2.regs] at c0
  have hn6 := hv.2.1
  have HT := Lib.hid (translate_any A c L.length L rfl (by omega) part addr w h3)
  have hc := tr_cases hv part addr
  generalize trR L part addr = t at *
  generalize L.length = n at *
  clear h1 h2 h3 h hv
  rcases hc with ⟨er, rfl, hne⟩ | ⟨x, rfl, hx⟩
  · go_enter Try.func41, Try.ntmps41
    go_wp2_with fail
    (with_reducible refine (HM.out).mono ?_); rintro _ w1 ⟨rfl, rfl⟩
    go_wp2_with fail
    (with_reducible refine (HT.out).mono ?_); rintro _ w2 ⟨rfl, hb⟩
    go_wp2_with fail
    go_ret2
    exact ⟨.inl ⟨er, rfl, hne, rfl⟩, hb⟩
  · go_enter Try.func41, Try.ntmps41
    go_wp2_with fail
    (with_reducible refine (HM.out).mono ?_); rintro _ w1 ⟨rfl, rfl⟩
    go_wp2_with fail
    (with_reducible refine (HT.out).mono ?_); rintro _ w2 ⟨rfl, hb⟩
    go_wp2_with fail
    go_ret2
    exact ⟨.inr ⟨x, rfl, hx, rfl⟩, hb⟩
/-- What Load answers. -/
def ldR (L : List Rg) (f : Nat → BitVec 8) (part addr : Int) : Value := if (trR L part addr).2 = 0 then U8 (f (trR L part addr).1.toNat) else U8 0#8
/-- The bytes after a Store. -/
def stR (L : List Rg) (f : Nat → BitVec 8) (part addr : Int) (v : BitVec 8) : Nat → BitVec 8 := if (trR L part addr).2 = 0 then (fun j => if j = (trR L part addr).1.toNat then v else f j) else f
/-- The bytes after a Clear, and its error. -/
def clR (L : List Rg) (f : Nat → BitVec 8) (part : Int) : Nat → BitVec 8 :=
  match L.find? (fun r => r.p == part) with
  | none => f
  | some r => fun j => if r.b.toNat ≤ j ∧ j < r.b.toNat + r.s.toNat then 0#8 else f j
def clE (L : List Rg) (part : Int) : Int := if fdB (fun r => r.p == part) L = true then 0 else 6
set_option maxRecDepth 100000 in
set_option maxHeartbeats 2000000 in
theorem load_any {lo g : Nat} {L : List Rg} {mem : Nat} {f : Nat → BitVec 8} (hv : Vld L mem) (part addr : Int) (w : World) (h : MemS lo g L mem f w) : Calls Try.prog 24 #[.pointer (some ⟨g, 0, none⟩), .int .i64 part, .int .i64 addr] w fun e w' => e = .returned (.tuple #[ldR L f part addr, .int .i64 (trR L part addr).2]) ∧ Below w.heap.size w w' := by
  have HC := Lib.hid (cell_any hv part addr w h)
  have Hm := Lib.hid h
  clear h
  have hr : Hid (ldR L f part addr = if (trR L part addr).2 = 0 then U8 (f (trR L part addr).1.toNat) else U8 0#8) := rfl
  generalize ldR L f part addr = r at *
  generalize trR L part addr = t at *
  go_enter Try.func24, Try.ntmps24
  go_wp2_with fail
  (with_reducible refine (HC.out).mono ?_); rintro _ w1 ⟨⟨er, rfl, hne, rfl⟩ | ⟨x, rfl, hx, rfl⟩, hb⟩
  · have hrr := hr.out
    have hne2 : ¬ er = 0 := by simpa using hne
    simp only [if_neg hne2] at hrr
    subst hrr
    go_wp2_with fail
    go_ret2
    exact ⟨rfl, hb⟩
  · have hrr := hr.out
    simp only [if_true, Int.toNat_natCast] at hrr
    subst hrr
    obtain ⟨cs, A, c, h1, h2, -, -⟩ := (Hm.out.keep hb).ex
    have hl := h1.lt
    have c0 := h1.cell (3 + x)
    rw [h2.byte x hx] at c0
    clear h1 h2
    go_wp2_with fail
    go_ret2
    exact ⟨rfl, hb⟩
set_option maxRecDepth 100000 in
set_option maxHeartbeats 2000000 in
theorem store_any {lo g : Nat} {L : List Rg} {mem : Nat} {f : Nat → BitVec 8} (hv : Vld L mem) (part addr : Int) (v : BitVec 8) (w : World) (h : MemS lo g L mem f w) : Calls Try.prog 22 #[.pointer (some ⟨g, 0, none⟩), .int .i64 part, .int .i64 addr, U8 v] w fun e w' => e = .returned (.int .i64 (trR L part addr).2) ∧ MemS lo g L mem (stR L f part addr v) w' ∧ Mv g w w' := by
  have HC := Lib.hid (cell_any hv part addr w h)
  have Hm := Lib.hid h
  clear h
  have hr : Hid (stR L f part addr v = if (trR L part addr).2 = 0 then (fun j => if j = (trR L part addr).1.toNat then v else f j) else f) := rfl
  generalize stR L f part addr v = r at *
  generalize trR L part addr = t at *
  go_enter Try.func22, Try.ntmps22
  go_wp2_with fail
  (with_reducible refine (HC.out).mono ?_); rintro _ w1 ⟨⟨er, rfl, hne, rfl⟩ | ⟨x, rfl, hx, rfl⟩, hb⟩
  · have hrr := hr.out
    have hne2 : ¬ er = 0 := by simpa using hne
    simp only [if_neg hne2] at hrr
    have hm1 := Hm.out.keep hb
    rw [← hrr] at hm1
    have Hm1 := Lib.hid hm1
    clear hm1 hrr
    go_wp2_with fail
    go_ret
    exact ⟨rfl, Hm1.out, Mv.of hb⟩
  · have hrr := hr.out
    simp only [if_true, Int.toNat_natCast] at hrr
    obtain ⟨cs, A, c, h1, h2, h3, h4⟩ := (Hm.out.keep hb).ex
    have hl := h1.lt
    have c0 := h1.cell (3 + x)
    rw [h2.byte x hx] at c0
    have f0 := h1.frozen (3 + x)
    have hm1 : Hid (MemS lo g L mem r (w1.setCell ⟨g, 3 + x, none⟩ (U8 v))) := by
      unfold Hid
      rw [hrr]
      exact ⟨_, A, c, h1.set1 (3 + x) _, h2.set x hx v, h3.same fun a e _ => Below.heap_setCell w1 ⟨g, 3 + x, none⟩ _ a.block (by have := h4 a e; simp; omega), h4⟩
    have hmv := Lib.hid ((Mv.of (g := g) hb).trans (Mv.setCell g w1 (3 + x) (U8 v)))
    clear h1 h2 h3 h4 hrr
    simp only [U8] at *
    go_wp2_with fail
    go_ret
    exact ⟨rfl, hm1.out, hmv.out⟩
theorem find_fit {L : List Rg} {mem : Nat} (hv : Vld L mem) {part : Int} {r : Rg} (hf : L.find? (fun r => r.p == part) = some r) : 0 ≤ r.b ∧ 0 ≤ r.s ∧ r.b + r.s ≤ 4096 := by
  obtain ⟨j, hj⟩ := List.getElem?_of_mem (List.mem_of_find?_eq_some hf)
  have hfit := (hv.2.2 j r (List.getElem?_eq_some_iff.1 hj).1 hj).2.1
  rw [fitR_iff] at hfit
  have hm := hv.1
  unfold szOk at hm
  simp at hm
  omega
theorem size_u8 (W : World) : (sizeOf 5).run Try.prog W = .ok 1 W := by kernel_rfl
theorem slice_own (g b s : Nat) (h : b + s ≤ 4096) (W : World) : (Instr.sliceAt 61 (.pointer (some ⟨g, 3, none⟩)) (some (.int .i64 (b : Nat))) (some (.int .i64 ((b : Int) + s))) (some (.int .i64 ((b : Int) + s)))).run Try.prog W = .ok (.slice (some ⟨g, if s = 0 then 3 else 3 + b, none⟩) s s) W := by
  have h1 : ((b : Int) + s).toNat = b + s := by omega
  have h2 : ((b + s : Nat) : Int) = (b : Int) + s := by omega
  unfold Instr.sliceAt
  rw [Sem.run_bind, run_underlying Try.underlying61 W]
  simp only [Result.andThen_ok, Sem.run_bind, Instr.sureAddr, Sem.run_pure, Instr.sliceBounds]
  have e1 := fun code W => run_sliceBound (P := Try.prog) (w := W) .i64 ((b : Int) + s) 4096 code (by omega) (by omega)
  have e2 := fun code W => run_sliceBound (P := Try.prog) (w := W) .i64 ((b : Int) + s) (b + s) code (by omega) (by omega)
  have e3 := fun code W => run_sliceBound (P := Try.prog) (w := W) .i64 (b : Int) (b + s) code (by omega) (by omega)
  simp only [e1, Result.andThen_ok, h1, e2, e3, Int.toNat_natCast, size_u8]
  by_cases hs : s = 0
  · subst hs
    simp
  · rw [if_neg (by omega), if_neg hs]
    simp [Addr.add]
theorem slice_all (g : Nat) (W : World) : (Instr.sliceAt 61 (.pointer (some ⟨g, 3, none⟩)) none none none).run Try.prog W = .ok (.slice (some ⟨g, 3, none⟩) 4096 4096) W := by
  unfold Instr.sliceAt
  rw [Sem.run_bind, run_underlying Try.underlying61 W]
  simp only [Result.andThen_ok, Sem.run_bind, Instr.sureAddr, Sem.run_pure, Instr.sliceBounds, size_u8]
  simp [Addr.add]
set_option maxRecDepth 100000 in
set_option maxHeartbeats 2000000 in
theorem own_any (g : Nat) (p : Int) (b s : Nat) (hbs : b + s ≤ 4096) (w : World) : Calls Try.prog 44 #[.pointer (some ⟨g, 0, none⟩), .agg #[.int .i64 p, .int .i64 (b : Nat), .int .i64 (s : Nat)]] w fun e w' => e = .returned (.slice (some ⟨g, if s = 0 then 3 else 3 + b, none⟩) s s) ∧ Below w.heap.size w w' := by
  have hsl := fun W => slice_own g b s hbs W
  have hB := (Below.refl w.heap.size w).alloc (Nat.le_refl _) (.cells #[.int .i64 p, .int .i64 (b : Nat), .int .i64 (s : Nat)] 45)
  generalize (if s = 0 then 3 else 3 + b) = o at *
  go_enter Try.func44, Try.ntmps44
  go_wp2_with fail
  go_quiet (fail)
  rename_i nq
  have hB2 := below_drewN hB nq
  go_wp2_with fail
  go_ret
  exact ⟨rfl, hB2⟩
end Me
end Go.Proofs.Ytdhofaiogbpjpaa
