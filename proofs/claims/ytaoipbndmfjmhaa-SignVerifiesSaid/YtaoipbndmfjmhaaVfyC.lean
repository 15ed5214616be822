/- SignVerifies: a round with no key left. -/
import Derived.Test.YtaoipbndmfjmhaaVfyB
import Derived.Test.YtaoipbndmfjmhaaNil
namespace Go.Proofs.Ytaoipbndmfjmhaa
open Go.RowKit Go.Joins
namespace Vfy
set_option maxRecDepth 100000 in
set_option maxHeartbeats 8000000 in
theorem used : round.p2 := by
  unfold round
  intro seed hb _ cap w h hh2 em R HRt L hlen hcap Q' g hgw hhm M hM hM5 hML hMc K wr u6 u12 u13 u14 u15 u16 u17 u18 u19 u20 u21 u56 u57 u58 u59 u60 u61 u62 u63 u64 u65 u66 u67 u68 u69 u70 u71 u72 u73 u74 u75 u76 u77 u78 u79 u80 u81 u82 u83 u84 u85 u86 u87 u88 u89 u90 u91 u92 u93 u94 u95 u96 u97 u98 u99 u100 u101 u102 u103 u104 u105 u106 u107 u108 u109 u110 u111 u112 u113 u114 u115 u116 u117 u118 u119 u120 u121 u122 u123 u124 u125 u126 u127 u128 u129 u130 u131 u132 u133 u134 u135 u136 u137 u138 k hk z b' off' u lf KA KB KC w4 hB bS hM' hsh2 hsh hN4 hN0 HNp QL fA fB fC hkN
  have Hsh := Lib.hid (And.intro hsh hsh2)
  clear hsh hsh2
  have HS := Lib.hid (msign_none g seed z h (by omega) w4 (by rw [HNp.out]; exact bS))
  have HSm : Hid (∀ W : World, _) := fun W => Nil.same_zero W
  have hzs := zero_sig
  have hi2 : (Try.prog.info? 34).map (·.size) = some (#[.int .i64 0, .int .u64 0, .int .u64 0, .int .u64 0, .int .u64 0, .int .u64 0, .int .u64 0, .int .u64 0, .int .u64 0, .int .u64 0, .int .u64 0, .int .u64 0, .int .u64 0, .int .u64 0, .int .u64 0, .int .u64 0, .int .u64 0, .int .u64 0, .int .u64 0, .slice none 0 0] : Array Value).size := info_sig
  have ho2 : (#[.int .i64 0, .int .u64 0, .int .u64 0, .int .u64 0, .int .u64 0, .int .u64 0, .int .u64 0, .int .u64 0, .int .u64 0, .int .u64 0, .int .u64 0, .int .u64 0, .int .u64 0, .int .u64 0, .int .u64 0, .int .u64 0, .int .u64 0, .int .u64 0, .int .u64 0, .slice none 0 0] : Array Value).all (·.oneCell') = true := by decide +kernel
  obtain ⟨Z, hZ⟩ : ∃ Z, (#[.int .i64 0, .int .u64 0, .int .u64 0, .int .u64 0, .int .u64 0, .int .u64 0, .int .u64 0, .int .u64 0, .int .u64 0, .int .u64 0, .int .u64 0, .int .u64 0, .int .u64 0, .int .u64 0, .int .u64 0, .int .u64 0, .int .u64 0, .int .u64 0, .int .u64 0, .slice none 0 0] : Array Value) = Z := ⟨_, rfl⟩
  rw [hZ] at hzs hi2 ho2 HS HSm
  have hukn : u ≤ k := by omega
  have hgek : decide (u ≤ k) = true := decide_eq_true hukn
  have hlek : decide ((u : Int) ≤ (k : Int)) = true := decide_eq_true (by omega)
  have hmk : Hid (min (k + 1) u = u) := Nat.min_eq_right (by omega)
  clear hZ hM hML hMc hlen hcap hkN
  have hgl := bS.lt
  obtain ⟨hsh, hsh2⟩ := Hsh.out
  go_wp2_with fail
  (with_reducible refine HS.out.mono ?_); rintro r w1 ⟨rfl, hb1⟩
  replace bS := bS.keep hb1
  replace hB := hB.trans (hb1.mono hB.size)
  clear hb1 HS
  have bY := BoxN.new w1 34 Z
  have bx : BoxN ((w1.alloc (.cells Z 34)).setRow w1.heap.size Z) w1.heap.size 34 Z := bY.setRow _
  have hz1 := hB.size
  have hBy : Below w1.heap.size w1 ((w1.alloc (.cells Z 34)).setRow w1.heap.size Z) := below_setRow ((Below.refl _ w1).alloc (Nat.le_refl _) _) (Nat.le_refl _) Z
  replace bS := bS.keep hBy
  replace hB := hB.trans (hBy.mono hz1)
  have hld := Lib.hid (run_loadVar_row (P := Try.prog) _ _ _ 34 _ (0, 0) _ bx Try.underlying34 rfl hi2)
  go_wp2_with (first | (refine wpList_store_rowTo rfl 34 _ _ rfl rfl w1.heap.size Z rfl rfl _ Z bY hi2 rfl ho2 ?_) | (refine wpList_load_sub (by rfl) 34 _ rfl ⟨w1.heap.size, 0, none⟩ rfl (.agg Z) hld.out ?_))
  (with_reducible refine (HSm.out _).mono ?_); rintro r w2 ⟨rfl, hb2⟩
  replace bS := Lib.hid (bS.keep hb2)
  replace hB := Lib.hid (hB.trans (hb2.mono hB.size))
  clear hb2 bx bY hBy hld
  go_wp2_with fail
  clear hsh hsh2
  go_roundw
  case rel => exact ⟨k + 1, by omega, by go_num, by rw [hmk.out]; exact bS.out, hB.out⟩
  case measure => simp [intOf]; omega
end Vfy
end Go.Proofs.Ytaoipbndmfjmhaa
