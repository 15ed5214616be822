/- The contract of each: tokens, handed on with their indices. -/
import Derived.Test.YthjpcafnbniafaaPlace
namespace Go.Proofs.Ythjpcafnbniafaa
open Go.RowKit Go.Joins
attribute [local go_sem] Oper.semAt_some

/-- A token as it lies in memory, whatever it is. -/
structure RTk where
  k : Nat
  s : List (BitVec 8)
  o : Int
abbrev rtkV (x : RTk) : Value := .agg #[.int .u8 x.k, .string (bstr x.s), .int .i64 x.o]
/-- The tokens that a slice reads. -/
def isT (A : Option Addr) (L : List RTk) (W : World) : Prop := L ≠ [] → ∃ b off, A = some ⟨b, off, none⟩ ∧ b < W.heap.size ∧ ∀ k x, L[k]? = some x → W.cell? ⟨b, off + k * 3, none⟩ = some (.int .u8 x.k) ∧ W.cell? ⟨b, off + k * 3 + 1, none⟩ = some (.string (bstr x.s)) ∧ W.cell? ⟨b, off + k * 3 + 2, none⟩ = some (.int .i64 x.o)
theorem isT.same {A : Option Addr} {L : List RTk} {w w' : World} (h : isT A L w) (hb : ∀ a, A = some a → a.block < w.heap.size → w'.heap[a.block]? = w.heap[a.block]?) : isT A L w' := fun hz => by
  obtain ⟨b, off, e, hl, hr⟩ := h hz
  have hh := hb _ e hl
  have hl' : b < w'.heap.size := by
    rw [Array.getElem?_eq_getElem hl] at hh
    exact (Array.getElem?_eq_some_iff.1 hh).1
  have hc : ∀ j, w'.cell? ⟨b, j, none⟩ = w.cell? ⟨b, j, none⟩ := fun j => World.cell?_of_block (a := ⟨b, j, none⟩) hh
  exact ⟨b, off, e, hl', fun k x hk => by rw [hc, hc, hc]; exact hr k x hk⟩
theorem isT.keep {A : Option Addr} {L : List RTk} {w w' : World} (h : isT A L w) (hb : Below w.heap.size w w') : isT A L w' := h.same fun a _ hl => hb.block a.block hl

def encE (p : RTk × Nat) : Array Value := #[.int .i64 p.2, rtkV p.1]
def ownE (c : Nat) (A : Option Addr) (L : List RTk) (k : Nat) : Prop := k = c ∨ (L ≠ [] ∧ ∃ a, A = some a ∧ k = a.block)
theorem isT.kc {A : Option Addr} {L : List RTk} {w w' : World} {c : Nat} (h : isT A L w) (hk : Kc (ownE c A L) w w') : isT A L w' := fun hz => by
  exact (h.same fun a ha _ => hk.own _ (.inr ⟨hz, a, ha, rfl⟩)) hz
theorem zipIdx_at {α : Type} {L : List α} {k : Nat} {x : α} (h : L[k]? = some x) : L.zipIdx[k]? = some (x, k) := by
  rw [List.getElem?_zipIdx, h]; simp

theorem each_any (A : Option Addr) (n cap : Nat) (w : World) :
    Calls Try.prog 24 #[.slice A n cap] w fun e w' => e = .returned (.func (.func 35) #[] #[.pointer (some ⟨w.heap.size, 0, none⟩)]) ∧ w' = w.alloc (.cells #[.slice A n cap] 24) := by
  go_enter Try.func24, Try.ntmps24
  go_wp2
  go_ret
  exact ⟨rfl, rfl⟩

set_option maxRecDepth 100000 in
set_option maxHeartbeats 2000000 in
theorem each1_in (n : Nat) (hn : 1 ≤ n) (lp c : Nat) (A : Option Addr) (cap : Nat) (L : List RTk) (hL : L.length ≤ 1000000000) (J : List (RTk × Nat) → World → Prop) (D : World → Prop) (W : World)
    (hJ : ∀ s X Y, J s X → It c X Y → (BoxN Y c 24 #[.slice A L.length cap] ∧ isT A L Y) → J s Y) (hD : ∀ X Y, D X → It c X Y → D Y)
    (hY : ∀ pre x W1, J pre W1 → pre ++ [x] <+: L.zipIdx → YieldAt Fence.wide (n - 1) Try.prog lp (encE x) W1 fun e W' => Kc (ownE c A L) W1 W' ∧ ((e = .returned (.bool true) ∧ J (pre ++ [x]) W') ∨ (e = .returned (.bool false) ∧ D W')))
    (hbx : BoxN W c 24 #[.slice A L.length cap]) (hrow : isT A L W) (h0 : J [] W) :
    CallsIn Fence.wide n Try.prog 35 #[.func (.yield lp) #[] #[], .pointer (some ⟨c, 0, none⟩)] W fun e W' => (∃ v, e = .returned v) ∧ (J L.zipIdx W' ∨ D W') := by
  have hro : Fence.wide.round = none := rfl
  have HY := Lib.hid hY
  have HJ := Lib.hid hJ
  have HDd := Lib.hid hD
  clear hY hJ hD
  have c0 := hbx.cell 0
  simp at c0
  have hbl := hbx.lt
  have hzt := zero_tok
  refine callsIn_of_wp Try.func35 rfl trivial ?_ hro
  simp only [Try.ntmps35, List.size_toArray, List.length_cons, List.length_nil, Nat.reduceAdd, Nat.reduceSub, Array.replicate_succ, Array.replicate_zero, List.push_toArray, List.append_toArray, List.nil_append, List.cons_append]
  gi_wp2_with fail
  clear c0 hbl
  gi_loopw [7] (fun i wr => ∃ k : Nat, k ≤ L.length ∧ i = .int .i64 k ∧ J (L.zipIdx.take k) wr ∧ BoxN wr c 24 #[.slice A L.length cap] ∧ isT A L wr)
    (fun i _ => L.length - (intOf i).toNat)
  case atStart => exact ⟨0, by omega, rfl, h0, hbx, hrow⟩
  case round =>
    clear h0 hbx hrow
    obtain ⟨k, hk, rfl, hj, hbx, hrow⟩ := hrel
    by_cases hlt : k < L.length
    · have hgk : L[k]? = some L[k] := List.getElem?_eq_getElem hlt
      obtain ⟨x, hx⟩ : ∃ x, L[k] = x := ⟨_, rfl⟩
      rw [hx] at hgk
      have hzk := zipIdx_at hgk
      have ht := take_snoc' hzk
      obtain ⟨b, off, rfl, hbb, hr⟩ := hrow (by rintro rfl; simp at hlt)
      obtain ⟨d0, d1, d2⟩ := hr k x hgk
      have hrow2 : isT (some ⟨b, off, none⟩) L wr := hrow
      have hJ2 := HJ.out _ _ (wr.alloc (.cells #[.int .u8 x.k, .string (bstr x.s), .int .i64 x.o] 27)) hj (It.of_below ((Below.refl _ _).alloc (Nat.le_refl _) _) (by have := hbx.lt; omega)) ⟨hbx.alloc _, hrow2.keep ((Below.refl _ _).alloc (Nat.le_refl _) _)⟩
      obtain ⟨fn, tmps, assign, body, hyy, hR⟩ := HY.out _ _ _ hJ2 (by rw [← ht]; exact List.take_prefix _ _)
      have hbx2 := Lib.hid (hbx.alloc (.cells #[.int .u8 x.k, .string (bstr x.s), .int .i64 x.o] 27))
      have hrow3 := Lib.hid (hrow2.keep ((Below.refl wr.heap.size wr).alloc (Nat.le_refl _) (.cells #[.int .u8 x.k, .string (bstr x.s), .int .i64 x.o] 27)))
      rw [← ht] at hR
      have HRR := Lib.hid hR
      unfold encE at hyy
      clear hR hJ2 hj ht hzk hgk hx hr hrow hrow2 hbx
      gi_wp2_with fail
      refine HRR.out.mono ?_
      rintro e W3 ⟨hk3, (⟨rfl, hJ3⟩ | ⟨rfl, hD3⟩)⟩
      · have hb3 : BoxN W3 c 24 #[.slice (some ⟨b, off, none⟩) L.length cap] := (hk3.own _ (.inl rfl)).trans hbx2.out
        have hr3 := hrow3.out.kc hk3
        clear hyy HRR hk3 hbx2 hrow3 d0 d1 d2
        gi_wp2_with fail
        go_roundw
        case rel => exact ⟨k + 1, by omega, by go_num, hJ3, hb3, hr3⟩
        case measure => simp [intOf]; omega
      · clear hyy HRR hk3 hbx2 hrow3 d0 d1 d2
        gi_wp2_with fail
        refine bodyPost_ret (results_none rfl _ _ _) rfl ?_
        exact ⟨⟨_, rfl⟩, .inr hD3⟩
    · obtain rfl : k = L.length := by omega
      rw [List.take_of_length_le (by simp)] at hj
      gi_wp2_with fail
      go_end0
      exact ⟨⟨_, rfl⟩, .inl hj⟩

theorem each_hands (n : Nat) (hn : 1 ≤ n) (c : Nat) (A : Option Addr) (cap : Nat) (L : List RTk) (hL : L.length ≤ 1000000000) (w : World) (hbx : BoxN w c 24 #[.slice A L.length cap]) (hrow : isT A L w) :
    HandsC Fence.wide n Try.prog 35 #[] #[.pointer (some ⟨c, 0, none⟩)] encE c (fun Y => BoxN Y c 24 #[.slice A L.length cap] ∧ isT A L Y) (ownE c A L) L.zipIdx w := fun lp J D W hW hJ hD hY h0 =>
  each1_in n hn lp c A cap L hL J D W hJ hD hY (hbx.keep hW) (hrow.keep hW) h0
end Go.Proofs.Ythjpcafnbniafaa
