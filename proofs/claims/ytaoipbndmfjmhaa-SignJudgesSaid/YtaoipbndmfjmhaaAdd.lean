/- The contracts of New and Add. -/
import Derived.Test.YtaoipbndmfjmhaaAdd1
namespace Go.Proofs.Ytaoipbndmfjmhaa
open Go.RowKit Go.Joins

/-- The bytes that a slice reads. -/
def isB (A : Option Addr) (l : List (BitVec 8)) (W : World) : Prop := l ≠ [] → ∃ b off, A = some ⟨b, off, none⟩ ∧ b < W.heap.size ∧ ∀ k z, l[k]? = some z → W.cell? ⟨b, off + k, none⟩ = some (U8 z)
theorem isB.keep {A : Option Addr} {l : List (BitVec 8)} {w w' : World} (h : isB A l w) (hb : Below w.heap.size w w') : isB A l w' := fun hz => by
  obtain ⟨b, off, e, hl, hr⟩ := h hz
  exact ⟨b, off, e, Nat.lt_of_lt_of_le hl hb.size, fun k z hk => (hb.cell (p := ⟨b, off + k, none⟩) hl).trans (hr k z hk)⟩
theorem isB.nil (A : Option Addr) (W : World) : isB A [] W := fun h => absurd rfl h

theorem take_snoc' {α : Type} {l : List α} {k : Nat} {x : α} (h : l[k]? = some x) : l.take (k + 1) = l.take k ++ [x] := by
  rw [List.take_add_one, h]; rfl
/-- A state as the program has it. -/
abbrev St (s n : BitVec 64) : Value := .agg #[U64 s, I64 n]
theorem info_St : (Try.prog.info? 88).map (·.size) = some 2 := by kernel_rfl
theorem zero_St : ∀ w : World, (zeroValue 88).run Try.prog w = .ok (.agg #[.int .u64 0, .int .i64 0]) w := fun _ => by kernel_rfl

set_option maxRecDepth 100000 in
set_option maxHeartbeats 1000000 in
theorem add_any (A : Option Addr) (cap : Nat) (l : List (BitVec 8)) (hlen : l.length ≤ 4611686018427387904) (s n : BitVec 64) (w : World) (hl : isB A l w) :
    Calls Try.prog 55 #[St s n, .slice A l.length cap] w fun e w' => e = .returned (St (ad s l) (n + BitVec.ofNat 64 l.length)) ∧ Below w.heap.size w w' := by
  have hz := zero_St
  go_enter Try.func55, Try.ntmps55
  go_wp2_with fail
  clear hz
  have b0 : BoxN ((w.alloc (.cells #[U64 s, I64 n] 88)).alloc (.cells #[.int .u64 0, .int .i64 0] 88)) w.heap.size 88 #[U64 s, I64 n] := (BoxN.new w _ _).alloc _
  have b1 : BoxN ((w.alloc (.cells #[U64 s, I64 n] 88)).alloc (.cells #[.int .u64 0, .int .i64 0] 88)) (w.heap.size + 1) 88 #[.int .u64 0, .int .i64 0] := by
    have := BoxN.new (w.alloc (.cells #[U64 s, I64 n] 88)) 88 #[.int .u64 0, .int .i64 0]
    rwa [World.size_alloc] at this
  have hB : Below w.heap.size w ((w.alloc (.cells #[U64 s, I64 n] 88)).alloc (.cells #[.int .u64 0, .int .i64 0] 88)) := ((Below.refl _ w).alloc (Nat.le_refl _) _).alloc (by simp) _
  generalize (w.alloc (.cells #[U64 s, I64 n] 88)).alloc (.cells #[.int .u64 0, .int .i64 0] 88) = W0 at b0 b1 hB ⊢
  obtain ⟨g, hg⟩ : ∃ g, w.heap.size = g := ⟨_, rfl⟩
  rw [hg] at b0 b1 hB ⊢
  have HG := Lib.hid hg
  clear hg
  go_loopw [11] (fun i wr => ∃ k : Nat, k ≤ l.length ∧ i = .int .i64 k ∧ BoxN wr g 88 #[U64 (ad s (l.take k)), I64 (n + BitVec.ofNat 64 k)] ∧ BoxN wr (g + 1) 88 #[.int .u64 0, .int .i64 0] ∧ Below g w wr)
    (fun i _ => l.length - (intOf i).toNat)
  case atStart => exact ⟨0, Nat.zero_le _, rfl, by simpa [ad] using b0, b1, hB⟩
  case round =>
    clear b0 b1 hB
    obtain ⟨k, hk, rfl, b0, b1, hB⟩ := hrel
    by_cases hlt : k < l.length
    · have hgk : l[k]? = some l[k] := List.getElem?_eq_getElem hlt
      obtain ⟨z, hz⟩ : ∃ z, l[k] = z := ⟨_, rfl⟩
      rw [hz] at hgk
      have hts : Hid (ad s (l.take (k + 1)) = addB (ad s (l.take k)) z) := by unfold Hid; rw [take_snoc' hgk, ad_snoc]
      have hn1 : Hid (n + BitVec.ofNat 64 (k + 1) = n + BitVec.ofNat 64 k + 1#64) := by unfold Hid; rw [BitVec.ofNat_add]; exact (BitVec.add_assoc ..).symm
      obtain ⟨b, off, rfl, hbl, hr⟩ := hl (by intro h; rw [h] at hlt; simp at hlt)
      have hc := (hB.cell (p := ⟨b, off + k, none⟩) (by rw [← HG.out]; exact hbl)).trans (hr k z hgk)
      have HN := Lib.hid (add1_any g (ad s (l.take k)) (n + BitVec.ofNat 64 k) z wr b0)
      clear hgk hz hr hl
      generalize ad s (l.take k) = r at hts HN ⊢
      generalize n + BitVec.ofNat 64 k = m at hn1 HN ⊢
      go_wp2_with fail
      (with_reducible refine HN.out.mono ?_); rintro e w' ⟨rfl, b2, ht⟩
      have b3 := b1.tn ht (by omega)
      have hB2 := hB.trans (ht.below g (Nat.le_refl _))
      go_wp2_with fail
      go_roundw
      case rel => exact ⟨k + 1, by omega, by go_num, by rw [hts.out, hn1.out]; exact b2, b3, hB2⟩
      case measure => simp [intOf]; omega
    · obtain rfl : k = l.length := by omega
      rw [List.take_length] at b0
      have hi : (Try.prog.info? 88).map (·.size) = some 2 := info_St
      obtain ⟨r, hr⟩ : ∃ r, ad s l = r := ⟨_, rfl⟩
      obtain ⟨m, hm⟩ : ∃ m, n + BitVec.ofNat 64 l.length = m := ⟨_, rfl⟩
      rw [hr, hm] at b0
      have HR := Lib.hid hr
      have HM := Lib.hid hm
      clear hr hm
      have c0 := b0.cell 0
      have c1 := b0.cell 1
      have d0 := b1.cell 0
      have d1 := b1.cell 1
      have f1 := b1.frozen 0
      have f2 := b1.frozen 1
      simp at c0 c1 d0 d1
      have b2 := (b1.set1 0 (U64 r)).set1 1 (I64 m)
      have e0 := b2.cell 0
      have e1 := b2.cell 1
      have hB2 := (hB.setCell (p := ⟨g + 1, 0, none⟩) (by simp) (U64 r)).setCell (p := ⟨g + 1, 1, none⟩) (by simp) (I64 m)
      simp at e0 e1
      go_wp2_with fail
      clear c0 c1 d0 d1 f1 f2
      generalize (wr.setCell ⟨g + 1, 0, none⟩ (.int .u64 r.toNat)).setCell ⟨g + 1, 1, none⟩ (.int .i64 m.toInt) = W at e0 e1 hB2 ⊢
      exact bodyPost_ret (v := St r m) (by simp [results, Try.results55, go_sem, e0, e1]) rfl ⟨by rw [HR.out, HM.out], by rw [HG.out]; exact hB2⟩
theorem new_any (w : World) : Calls Try.prog 56 #[] w fun e w' => e = .returned (St start 0#64) ∧ Below w.heap.size w w' := by
  have hz := zero_St
  go_enter Try.func56, Try.ntmps56
  go_wp2_with fail
  clear hz
  have b0 := BoxN.new w 88 #[.int .u64 7953747704174896417, .int .i64 0]
  have hB := (Below.refl _ w).alloc (Nat.le_refl _) (.cells #[.int .u64 7953747704174896417, .int .i64 0] 88)
  generalize w.alloc (.cells #[.int .u64 7953747704174896417, .int .i64 0] 88) = W at b0 hB ⊢
  have e0 := b0.cell 0
  have e1 := b0.cell 1
  simp at e0 e1
  exact bodyPost_ret (v := .agg #[.int .u64 7953747704174896417, .int .i64 0]) (by simp [results, Try.results56, go_sem, e0, e1]) rfl ⟨rfl, hB⟩
end Go.Proofs.Ytaoipbndmfjmhaa
