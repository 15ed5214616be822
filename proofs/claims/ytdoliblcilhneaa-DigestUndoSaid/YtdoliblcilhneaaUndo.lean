/- DigestUndo returns true. -/
import Derived.Test.YtdoliblcilhneaaShare
namespace Go.Proofs.Ytdoliblcilhneaa
open Go.RowKit Go.Joins
namespace Undo

theorem undo (t : BitVec 64) (v : BitVec 8) : addB (mulI (rotI t) ^^^ v.setWidth 64) v = t := by
  unfold addB mixB
  rw [BitVec.xor_assoc, BitVec.xor_self, BitVec.xor_zero, mulB_mulI, rotB_rotI]

set_option maxRecDepth 100000 in
set_option maxHeartbeats 2000000 in
theorem walk (t n v : Int) (w : World) (ht0 : 0 ≤ t) (ht1 : t ≤ 18446744073709551615) (hn0 : -9223372036854775808 ≤ n) (hn1 : n ≤ 9223372036854775807) (hv0 : 0 ≤ v) (hv1 : v ≤ 255) :
    Calls Try.prog 9 #[.agg #[.int .u64 t, .int .i64 n], .int .u8 v] w fun e w' => e = .returned (.bool true) ∧ Below w.heap.size w w' := by
  obtain ⟨t, rfl⟩ := int_bv (n := 64) ht0 (by omega)
  obtain ⟨v, rfl⟩ := int_bv (n := 8) hv0 (by omega)
  obtain ⟨n, rfl⟩ := int_bvs hn0 hn1
  have HW : Hid (∀ W : World, _) := fun W => Aw.walk W
  have h1 : bits .or .u64 ((t.toNat : Int) / 1048576) (IntKind.u64.wrap ((t.toNat : Int) * 17592186044416)) = ((rotI t).toNat : Int) := by
    rw [shl64 t 44 17592186044416 (by decide), shr64 t 20 1048576 (by decide), or64]; rfl
  have hU := undo t v
  generalize rotI t = y at h1 hU
  have h2 : IntKind.u64.wrap (IntKind.u64.wrap ((y.toNat : Int) - IntKind.u64.wrap ((y.toNat : Int) * 268435456)) + IntKind.u64.wrap ((y.toNat : Int) * 72057594037927936)) = ((mulI y).toNat : Int) := by
    rw [shl64 y 28 268435456 (by decide), shl64 y 56 72057594037927936 (by decide), sub64, add64]; rfl
  generalize mulI y = x at h2 hU
  have h3 : bits .xor .u64 (x.toNat : Int) (v.toNat : Int) = ((x ^^^ v.setWidth 64).toNat : Int) := by rw [wide, xor64]
  generalize x ^^^ v.setWidth 64 = s at h3 hU
  have h4 : wrap64 (n.toInt - 1) = (n + BitVec.ofInt 64 (-1)).toInt := wrap_int n (-1)
  have hm : n + BitVec.ofInt 64 (-1) + BitVec.ofNat 64 1 = n := by
    rw [BitVec.add_assoc, show BitVec.ofInt 64 (-1) + BitVec.ofNat 64 1 = 0#64 by decide, BitVec.add_zero]
  generalize n + BitVec.ofInt 64 (-1) = m at h4 hm
  have HA : Hid (∀ (b : Nat) (W : World), isB (some ⟨b, 0, none⟩) [v] W → _) := fun b W h => add_n (cap := 1) 1 rfl s m t n (by exact hU) hm (by decide) W h
  have hz := zero_St
  clear hU hm
  go_enter Try.func9, Try.ntmps9
  go_wp2_with fail
  clear hz h1 h2 h3 h4
  have b0 : BoxN ((w.alloc (.cells #[U64 t, I64 n] 26)).alloc (.cells #[U64 s, I64 m] 26)) w.heap.size 26 #[U64 t, I64 n] := (BoxN.new w _ _).alloc _
  have b1 : BoxN ((w.alloc (.cells #[U64 t, I64 n] 26)).alloc (.cells #[U64 s, I64 m] 26)) (w.heap.size + 1) 26 #[U64 s, I64 m] := by
    have h := BoxN.new (w.alloc (.cells #[U64 t, I64 n] 26)) 26 #[U64 s, I64 m]
    rwa [World.size_alloc] at h
  have hB : Below w.heap.size w ((w.alloc (.cells #[U64 t, I64 n] 26)).alloc (.cells #[U64 s, I64 m] 26)) := ((Below.refl _ w).alloc (Nat.le_refl _) _).alloc (by simp) _
  generalize (w.alloc (.cells #[U64 t, I64 n] 26)).alloc (.cells #[U64 s, I64 m] 26) = W0 at b0 b1 hB ⊢
  have c0 := b0.cell 0
  have c1 := b0.cell 1
  have c2 := b1.cell 0
  have c3 := b1.cell 1
  have l0 := b0.lt
  have l1 := b1.lt
  simp at c0 c1 c2 c3
  generalize w.heap.size + 1 = g1 at c2 c3 l1 ⊢
  obtain ⟨g, hg⟩ : ∃ g, w.heap.size = g := ⟨_, rfl⟩
  have hB' := Lib.hid hB
  rw [hg] at c0 c1 l0 ⊢
  clear hg b0 b1 hB
  have HB : Hid (isB (some ⟨W0.heap.size, 0, none⟩) [v] (W0.alloc (.cells #[U8 v] 5)).drew) := isB_lit W0 [v] #[U8 v] rfl
  have hBd := Lib.hid ((hB'.out.alloc hB'.out.size (.cells #[U8 v] 5)).drew)
  go_region_with (first
    | (go_at_call 11; (with_reducible refine (HA.out _ _ HB.out).mono ?_); rintro e v5 ⟨rfl, hb⟩; obtain ⟨hcc, hcf⟩ := bcell hb; have hB5 := Lib.hid (hBd.out.trans (hb.mono hBd.out.size)); clear hb; (try simp only [World.size_alloc, World.size_drew] at hcc))
    | (go_at_call 10; (with_reducible refine (HW.out _).mono ?_); rintro e v6 ⟨rfl, hb⟩; have hB6 := Lib.hid (hB5.out.trans (hb.mono hB5.out.size)); clear hb))
  all_goals
    go_wp2
    go_ret
    exact ⟨rfl, hB6.out⟩
end Undo
end Go.Proofs.Ytdoliblcilhneaa
