/- The contracts of Update and Sum. -/
import Derived.Test.YtjlnaihlndmlfabSqr
namespace Go.Proofs.Ytjlnaihlndmlfab
open Go.RowKit Go.Joins

/-- The bytes that a slice reads. -/
def isB (A : Option Addr) (l : List (BitVec 8)) (W : World) : Prop := l ≠ [] → ∃ b off, A = some ⟨b, off, none⟩ ∧ b < W.heap.size ∧ ∀ k z, l[k]? = some z → W.cell? ⟨b, off + k, none⟩ = some (U8 z)
theorem isB.keep {A : Option Addr} {l : List (BitVec 8)} {w w' : World} (h : isB A l w) (hb : Below w.heap.size w w') : isB A l w' := fun hz => by
  obtain ⟨b, off, e, hl, hr⟩ := h hz
  exact ⟨b, off, e, Nat.lt_of_lt_of_le hl hb.size, fun k z hk => (hb.cell (p := ⟨b, off + k, none⟩) hl).trans (hr k z hk)⟩
theorem isB.below {A : Option Addr} {l : List (BitVec 8)} {w w' w0 : World} (h : isB A l w0) (h0 : Below w0.heap.size w0 w) (hb : Below w.heap.size w w') : isB A l w' := (h.keep h0).keep hb
theorem isB.nil (A : Option Addr) (W : World) : isB A [] W := fun h => absurd rfl h

theorem take_snoc' {α : Type} {l : List α} {k : Nat} {x : α} (h : l[k]? = some x) : l.take (k + 1) = l.take k ++ [x] := by
  rw [List.take_add_one, h]; rfl

theorem not32 (x : BitVec 32) : bits .xor .u32 IntKind.u32.max (x.toNat : Int) = ((~~~ x).toNat : Int) := by
  have h : IntKind.u32.max = ((4294967295#32 : BitVec 32).toNat : Int) := by decide
  rw [h, xor32]
  congr 2

set_option maxRecDepth 100000 in
set_option maxHeartbeats 1000000 in
theorem update_any (A : Option Addr) (cap : Nat) (l : List (BitVec 8)) (hlen : l.length ≤ 4611686018427387904) (s : BitVec 32) (w : World) (hl : isB A l w) :
    Calls Try.prog 16 #[U32 s, .slice A l.length cap] w fun e w' => e = .returned (U32 (upd s l)) ∧ Below w.heap.size w w' := by
  have hz := zero_tab
  have hi : (Try.prog.info? 49).map (·.size) = some tab.size := by unfold tab; rw [tabRow_size]; exact info_tab
  have ho : tab.all (·.oneCell') = true := tabRow_one 256
  have hs : (tabRow 0).size = tab.size := by unfold tab; rw [tabRow_size, tabRow_size]
  generalize tabRow 0 = T0 at hz hs
  go_enter Try.func16, Try.ntmps16
  go_wp2_with fail
  (with_reducible refine (zeroByte_any _).mono ?_); rintro e w1 ⟨rfl, hb⟩
  have b0 : (w1.alloc (.cells T0 49)).heap[w1.heap.size]? = some (.cells T0 49 (0, 0)) := BoxN.new w1 _ _
  go_wp2_with (refine wpList_store_rowTo rfl 49 _ _ rfl rfl w1.heap.size tab rfl rfl _ T0 b0 hi hs ho ?_)
  have b1 : BoxN ((w1.alloc (.cells T0 49)).setRow w1.heap.size tab) w1.heap.size 49 tab := BoxN.setRow (BoxN.new w1 _ _) tab
  have hB1 := below_setRow (hb.alloc hb.size (.cells T0 49)) hb.size tab
  generalize (w1.alloc (.cells T0 49)).setRow w1.heap.size tab = W0 at b1 hB1 ⊢
  generalize w1.heap.size = g at b1 ⊢
  rw [not32]
  clear hz hi ho hs b0 hb
  have hu : Hid (upd s l = ~~~ (up (~~~ s) l)) := rfl
  generalize ~~~ s = s' at hu ⊢
  go_loopw [6, 14] (fun r i wr => ∃ k : Nat, k ≤ l.length ∧ i = .int .i64 k ∧ r = U32 (up s' (l.take k)) ∧ BoxN wr g 49 tab ∧ Below w.heap.size w wr)
    (fun _ i _ => l.length - (intOf i).toNat)
  case atStart => exact ⟨0, Nat.zero_le _, rfl, by simp [up], b1, hB1⟩
  case round =>
    clear b1 hB1
    obtain ⟨k, hk, rfl, rfl, b1, hB⟩ := hrel
    by_cases hlt : k < l.length
    · have hgk : l[k]? = some l[k] := List.getElem?_eq_getElem hlt
      obtain ⟨z, hz⟩ : ∃ z, l[k] = z := ⟨_, rfl⟩
      rw [hz] at hgk
      have hts : Hid (up s' (l.take (k + 1)) = by8 (up s' (l.take k)) z) := by unfold Hid; rw [take_snoc' hgk, up_snoc]
      obtain ⟨b, off, rfl, hbl, hr⟩ := hl (by intro h; rw [h] at hlt; simp at hlt)
      have hc := (hB.cell (p := ⟨b, off + k, none⟩) hbl).trans (hr k z hgk)
      have HN := Lib.hid (next_any g 49 (up s' (l.take k)) z wr b1)
      clear hgk hz hr hl
      generalize up s' (l.take k) = r at hts HN ⊢
      go_wp2_with fail
      (with_reducible refine HN.out.mono ?_); rintro e w' ⟨rfl, rfl⟩
      go_wp2_with fail
      go_roundw
      case rel => exact ⟨k + 1, by omega, by go_num, by rw [hts.out], b1, hB⟩
      case measure => simp [intOf]; omega
    · obtain rfl : k = l.length := by omega
      rw [List.take_length]
      have hn := Lib.hid (not32 (up s' l))
      obtain ⟨y, hy⟩ : ∃ y, upd s l = y := ⟨_, rfl⟩
      rw [hy] at hu
      rw [← hu.out] at hn
      have HY := Lib.hid hy
      clear hy
      generalize up s' l = r at hu hn ⊢
      go_wp2_with fail
      go_ret
      exact ⟨by rw [HY.out]; exact congrArg (fun i => Ending.returned (.int .u32 i)) hn.out, hB⟩

theorem sum_any (A : Option Addr) (cap : Nat) (l : List (BitVec 8)) (hlen : l.length ≤ 4611686018427387904) (w : World) (hl : isB A l w) :
    Calls Try.prog 14 #[.slice A l.length cap] w fun e w' => e = .returned (U32 (sum l)) ∧ Below w.heap.size w w' := by
  have hu : Hid (sum l = upd 0#32 l) := rfl
  have HU := Lib.hid (update_any A cap l hlen 0#32 w hl)
  generalize upd 0#32 l = r at hu HU
  rw [show U32 0#32 = .int .u32 0 from rfl] at HU
  go_enter Try.func14, Try.ntmps14
  go_wp2_with fail
  (with_reducible refine HU.out.mono ?_); rintro e w' ⟨rfl, hb⟩
  go_wp2_with fail
  go_ret
  exact ⟨by rw [hu.out]; rfl, hb⟩
end Go.Proofs.Ytjlnaihlndmlfab
