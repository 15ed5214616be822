/- The contract of a signer's Sign. -/
import Derived.Test.YtaoipbndmfjmhaaSigner2
namespace Go.Proofs.Ytaoipbndmfjmhaa
open Go.RowKit Go.Joins

set_option maxRecDepth 100000 in
set_option maxHeartbeats 1000000 in
theorem msign_none (g : Nat) (seed d : BitVec 64) (h : Nat) (hh : h ≤ 6) (w : World) (hb : BoxN w g 63 (SgC true seed h (2 ^ h))) :
    Calls Try.prog 32 #[.pointer (some ⟨g, 0, none⟩), U64 d] w fun e w' => e = .returned (.tuple #[.agg #[.int .i64 0, .int .u64 0, .int .u64 0, .int .u64 0, .int .u64 0, .int .u64 0, .int .u64 0, .int .u64 0, .int .u64 0, .int .u64 0, .int .u64 0, .int .u64 0, .int .u64 0, .int .u64 0, .int .u64 0, .int .u64 0, .int .u64 0, .int .u64 0, .int .u64 0, .slice none 0 0], .int .i64 6]) ∧ Below w.heap.size w w' := by
  obtain ⟨u, hu⟩ : ∃ u, 2 ^ h = u := ⟨_, rfl⟩
  rw [hu] at hb
  have HM : Hid (∀ W, BoxN W g 63 (SgC true seed h u) → _) := fun W hb => made_yes g seed h u W hb
  have HL : Hid (∀ W, BoxN W g 63 (SgC true seed h u) → _) := fun W hb => left_yes g seed h u hh (by omega) W hb
  rw [hu, Nat.sub_self, Int.natCast_zero] at HL
  have hzs := zero_sig
  have hi2 : (Try.prog.info? 34).map (·.size) = some (#[.int .i64 0, .int .u64 0, .int .u64 0, .int .u64 0, .int .u64 0, .int .u64 0, .int .u64 0, .int .u64 0, .int .u64 0, .int .u64 0, .int .u64 0, .int .u64 0, .int .u64 0, .int .u64 0, .int .u64 0, .int .u64 0, .int .u64 0, .int .u64 0, .int .u64 0, .slice none 0 0] : Array Value).size := info_sig
  have ho2 : (#[.int .i64 0, .int .u64 0, .int .u64 0, .int .u64 0, .int .u64 0, .int .u64 0, .int .u64 0, .int .u64 0, .int .u64 0, .int .u64 0, .int .u64 0, .int .u64 0, .int .u64 0, .int .u64 0, .int .u64 0, .int .u64 0, .int .u64 0, .int .u64 0, .int .u64 0, .slice none 0 0] : Array Value).all (·.oneCell') = true := by decide +kernel
  obtain ⟨Z, hZ⟩ : ∃ Z, (#[.int .i64 0, .int .u64 0, .int .u64 0, .int .u64 0, .int .u64 0, .int .u64 0, .int .u64 0, .int .u64 0, .int .u64 0, .int .u64 0, .int .u64 0, .int .u64 0, .int .u64 0, .int .u64 0, .int .u64 0, .int .u64 0, .int .u64 0, .int .u64 0, .int .u64 0, .slice none 0 0] : Array Value) = Z := ⟨_, rfl⟩
  rw [hZ] at hzs hi2 ho2 ⊢
  clear hZ hu
  go_enter Try.func32, Try.ntmps32
  go_wp2_with fail
  have b8 : BoxN (w.alloc (.cells Z 34)) w.heap.size 34 Z := BoxN.new w _ _
  have hB : Below w.heap.size w (w.alloc (.cells Z 34)) := (Below.refl _ w).alloc (Nat.le_refl _) _
  replace hb := hb.alloc (.cells Z 34)
  generalize w.alloc (.cells Z 34) = w0 at b8 hB hb ⊢
  (with_reducible refine (HM.out _ hb).mono ?_); rintro e w1 ⟨rfl, hb1⟩
  replace b8 := b8.keep hb1
  replace hb := hb.keep hb1
  replace hB := hB.trans (hb1.mono hB.size)
  clear hb1
  go_wp2_with fail
  (with_reducible refine (HL.out _ hb).mono ?_); rintro e w2 ⟨rfl, hb1⟩
  replace b8 := b8.keep hb1
  replace hB := hB.trans (hb1.mono hB.size)
  clear hb1 hb
  have b8' : w2.heap[w.heap.size]? = some (.cells Z 34 (0, 0)) := b8
  have b2 : BoxN (w2.setRow w.heap.size Z) w.heap.size 34 Z := b8.setRow _
  have hB2 := below_setRow hB (Nat.le_refl w.heap.size) Z
  go_wp2_with (refine wpList_store_rowTo rfl 34 _ _ rfl rfl w.heap.size Z rfl rfl _ Z b8' hi2 rfl ho2 ?_)
  exact bodyPost_ret (v := .tuple #[.agg Z, .int .i64 6]) (results_cell_tmp Try.results32 _ _ w.heap.size _ Z _ rfl b2 Try.underlying34 rfl hi2) rfl ⟨rfl, hB2⟩

end Go.Proofs.Ytaoipbndmfjmhaa
