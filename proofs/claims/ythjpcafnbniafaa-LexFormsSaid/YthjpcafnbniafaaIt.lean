/- What a scanner's calls may do: nothing but its block turns, and new memory comes. The contract of since. -/
import Derived.Test.YthjpcafnbniafaaKind
import Derived.Test.YthjpcafnbniafaaNum
import Derived.Laws.IdiomStrings
namespace Go.Proofs.Ythjpcafnbniafaa
open Go.RowKit Go.Joins

/-- Nothing but the block b has turned; there may be new memory. -/
structure It (b : Nat) (W W' : World) : Prop where
  below : ∀ n0, n0 ≤ b → Below n0 W W'
  far : ∀ k, k < W.heap.size → k ≠ b → W'.heap[k]? = W.heap[k]?
theorem It.size {b : Nat} {W W' : World} (h : It b W W') : W.heap.size ≤ W'.heap.size := (h.below 0 (Nat.zero_le _)).size
theorem It.refl (b : Nat) (W : World) : It b W W := ⟨fun _ _ => Below.refl _ _, fun _ _ _ => rfl⟩
theorem It.trans {b : Nat} {W1 W2 W3 : World} (h : It b W1 W2) (k : It b W2 W3) : It b W1 W3 :=
  ⟨fun n0 hn => (h.below n0 hn).trans (k.below n0 hn), fun i hi hb => (k.far i (Nat.lt_of_lt_of_le hi h.size) hb).trans (h.far i hi hb)⟩
theorem It.of_below {b : Nat} {W W' : World} (h : Below W.heap.size W W') (hb : b ≤ W.heap.size) : It b W W' :=
  ⟨fun _ hn => h.mono (Nat.le_trans hn hb), fun i hi _ => h.block i hi⟩
theorem It.tn {b : Nat} {W W' : World} (h : Tn b W W') : It b W W' := ⟨h.below, fun k _ hk => h.far k hk⟩
theorem It.drewN {b : Nat} {W W' : World} (h : It b W W') (n : Nat) : It b W (W'.drewN n) := h.trans ⟨fun _ _ => below_drewN (Below.refl _ _) n, fun _ _ _ => rfl⟩
theorem It.set {b : Nat} {W W' : World} (h : It b W W') (i : Nat) (v : Value) : It b W (W'.setCell ⟨b, i, none⟩ v) := h.trans (It.tn ((Tn.refl b W').set i v))
/-- What is written is new. -/
theorem It.own {b : Nat} {W W' : World} (h : It b W W') {p : Addr} (hb : b ≤ W.heap.size) (hp : W.heap.size ≤ p.block) (v : Value) : It b W (W'.setCell p v) :=
  ⟨fun n0 hn => (h.below n0 hn).setCell (by omega) v, fun k hk hkb => (Below.heap_setCell W' p v k (by omega)).trans (h.far k hk hkb)⟩
theorem It.row {b g : Nat} {W W' : World} (h : It b W W') (hp : W.heap.size ≤ g) (cs : Array Value) (hb : b ≤ W.heap.size := by omega) : It b W (W'.setRow g cs) :=
  ⟨fun n0 hn => below_setRow (h.below n0 hn) (by omega) cs, fun k hk hkb => (setRow_other W' g k cs (by omega)).trans (h.far k hk hkb)⟩
theorem BoxN.it {W W' : World} {B b : Nat} {t : TypeId} {cs : Array Value} (h : BoxN W b t cs) (hk : It B W W') (hb : b ≠ B) : BoxN W' b t cs := (hk.far b h.lt hb).trans h
/-- Seen from before the scanner's block was made, it is as below. -/
theorem It.below' {b : Nat} {W W' : World} (h : It b W W') {n0 : Nat} (hn : n0 ≤ b) : Below n0 W W' := h.below n0 hn

theorem isB_row {W : World} (m : List (BitVec 8)) (cap : Nat) (t : TypeId) (fr : Nat × Nat) : isB (some ⟨W.heap.size, 0, none⟩) m (W.drew.alloc (.cells (bytesRow (bstr m) cap) t fr)) := fun _ => by
  refine ⟨W.heap.size, 0, rfl, by simp, fun k z hz => ?_⟩
  have hlt : k < (bstr m).data.size := by
    have := (List.getElem?_eq_some_iff.1 hz).1
    have h2 := bstr_size m
    change (bstr m).data.size = _ at h2
    omega
  have h1 := World.cell?_alloc_mark W.drew (bytesRow (bstr m) cap) t fr k
  rw [show W.drew.heap.size = W.heap.size from rfl] at h1
  rw [Nat.zero_add, h1, bytesRow_at _ _ _ hlt]
  have h3 : (bstr m).data[k]'hlt = UInt8.ofBitVec z := by
    obtain ⟨hl, he⟩ := List.getElem?_eq_some_iff.1 hz
    simp [bstr, he]
  rw [h3]; rfl

set_option maxRecDepth 100000 in
set_option maxHeartbeats 1000000 in
theorem since_any (l : List (BitVec 8)) (b f1 f2 k o : Nat) (ho : o ≤ k) (hk : k ≤ l.length) (w : World) (hs : ScB w b f1 f2 l k) :
    Calls Try.prog 49 #[.pointer (some ⟨b, 0, none⟩), .int .i64 o] w fun e w' => e = .returned (.string (bstr ((l.drop o).take (k - o)))) ∧ Below w.heap.size w w' := by
  have c0 := hs.c0
  have c1 := hs.c1
  have hbl := hs.lt
  have hbs := bstr_size l
  have hex := bstr_extract l o k
  have hml : ((l.drop o).take (k - o)).length = k - o := by simp; omega
  generalize (l.drop o).take (k - o) = m at hex hml ⊢
  have hbm := bstr_size m
  rw [hml] at hbm
  have hi1 : (k : Int) ≤ l.length := by omega
  have hi2 : (o : Int) ≤ k := by omega
  have hB0 : Below w.heap.size w w.drew := (Below.refl _ _).drew
  go_enter Try.func49, Try.ntmps49
  go_wp2_with fail
  go_still_tail 9, (by kernel_rfl)
  change wpList _ _ _ _ _ w.drew
  generalize w.drew = w0 at hB0 ⊢
  have hcv := run_bytes_of_string (P := Try.prog) w0 9 34 5 (bstr m) Try.underlying9 Try.underlying34 Try.underlying5
  rw [hbm] at hcv
  obtain ⟨C, hC⟩ : ∃ C, grownCap w0 (k - o) 0 5 = C := ⟨_, rfl⟩
  rw [hC] at hcv
  obtain ⟨W3, hW3⟩ : ∃ W3, w0.drew.alloc (.cells (bytesRow (bstr m) C) 5 ((bytesRow (bstr m) C).size, (bytesRow (bstr m) C).size + 1)) = W3 := ⟨_, rfl⟩
  have hB3 : Below w.heap.size w W3 := by rw [← hW3]; exact (hB0.drew).alloc (by exact hB0.size) _
  have hst : (convert 34 9 (.slice (some ⟨w0.heap.size, 0, none⟩) (k - o) C)).run Try.prog W3 = .ok (.string (bstr m)) W3 := by
    have := str_run (A := some ⟨w0.heap.size, 0, none⟩) (l := m) (W := W3) C (by rw [← hW3]; exact isB_row m C _ _)
    rwa [hml] at this
  rw [hW3] at hcv
  clear hW3 hC hs
  go_wp2_with fail
  go_ret
  exact ⟨rfl, hB3⟩
end Go.Proofs.Ythjpcafnbniafaa
