/- SignTells: a height that is not valid. -/
import Derived.Test.YtaoipbndmfjmhaaTlA
namespace Go.Proofs.Ytaoipbndmfjmhaa
open Go.RowKit Go.Joins
namespace Tll
set_option maxRecDepth 100000 in
set_option maxHeartbeats 8000000 in
theorem bad : step.p2 := by
  unfold step
  intro seed d h q i k w HW T X Y hx1 hy1 Hbig ztlBad0 u17 u18 u19 u20 u21 hwc w1 w2 w3 w4 w5 w6 hB ztlBad1 ztlBad2 ztlBad3 ztlBad4 hk
  have hf : okH h = false := by simpa using hk
  have hkq : ∀ q, okK q h = false := fun q => by
    unfold okH at hf
    unfold okK
    rw [decide_eq_false_iff_not] at hf ⊢
    exact fun e => hf e.1
  have HR : Hid (∀ W : World, _) := fun W => root_bad seed h hf W
  have HSb : Hid (∀ W : World, _) := fun W => sign_bad seed d h q (hkq q) W
  have HV : Hid (∀ W : World, Calls Try.prog 19 #[.int .i64 h, .int .i64 0] W fun e w' => e = .returned (.bool false) ∧ w' = W) := fun W => by
    have := rvalid_any h 0 W
    rwa [hkq 0] at this
  have HSm : Hid (∀ W : World, _) := fun W => Nil.same_zero W
  have hzs := zero_sig
  have hi2 : (Try.prog.info? 34).map (·.size) = some (#[.int .i64 0, .int .u64 0, .int .u64 0, .int .u64 0, .int .u64 0, .int .u64 0, .int .u64 0, .int .u64 0, .int .u64 0, .int .u64 0, .int .u64 0, .int .u64 0, .int .u64 0, .int .u64 0, .int .u64 0, .int .u64 0, .int .u64 0, .int .u64 0, .int .u64 0, .slice none 0 0] : Array Value).size := info_sig
  have ho2 : (#[.int .i64 0, .int .u64 0, .int .u64 0, .int .u64 0, .int .u64 0, .int .u64 0, .int .u64 0, .int .u64 0, .int .u64 0, .int .u64 0, .int .u64 0, .int .u64 0, .int .u64 0, .int .u64 0, .int .u64 0, .int .u64 0, .int .u64 0, .int .u64 0, .int .u64 0, .slice none 0 0] : Array Value).all (·.oneCell') = true := by decide +kernel
  obtain ⟨Z, hZ⟩ : ∃ Z, (#[.int .i64 0, .int .u64 0, .int .u64 0, .int .u64 0, .int .u64 0, .int .u64 0, .int .u64 0, .int .u64 0, .int .u64 0, .int .u64 0, .int .u64 0, .int .u64 0, .int .u64 0, .int .u64 0, .int .u64 0, .int .u64 0, .int .u64 0, .int .u64 0, .int .u64 0, .slice none 0 0] : Array Value) = Z := ⟨_, rfl⟩
  rw [hZ] at hzs hi2 ho2 HSm HSb
  clear hZ hk hf hkq
  (with_reducible refine (HR.out _).mono ?_); rintro e v1 ⟨rfl, hb1⟩
  replace hB := hB.trans (hb1.mono hB.size)
  clear hb1
  go_wp2_with fail
  (with_reducible refine (HSb.out _).mono ?_); rintro e v2 ⟨rfl, hb1⟩
  replace hB := hB.trans (hb1.mono hB.size)
  clear hb1
  have bN := BoxN.new v2 34 Z
  have bX : BoxN ((v2.alloc (.cells Z 34)).setRow v2.heap.size Z) v2.heap.size 34 Z := bN.setRow _
  have hBy : Below v2.heap.size v2 ((v2.alloc (.cells Z 34)).setRow v2.heap.size Z) := below_setRow ((Below.refl _ v2).alloc (Nat.le_refl _) _) (Nat.le_refl _) Z
  replace hB := hB.trans (hBy.mono hB.size)
  go_wp2_with (refine wpList_store_rowTo rfl 34 _ _ rfl rfl v2.heap.size Z rfl rfl _ Z bN hi2 rfl ho2 ?_)
  generalize (v2.alloc (.cells Z 34)).setRow v2.heap.size Z = v3 at bX hB ⊢
  generalize v2.heap.size = g at bX ⊢
  clear bN hBy
  (with_reducible refine (HV.out _).mono ?_); rintro e v4 ⟨rfl, rfl⟩
  have ldX := Lib.hid (run_loadVar_row (P := Try.prog) _ _ _ 34 _ (0, 0) _ bX Try.underlying34 rfl hi2)
  go_wp2_with (refine wpList_load_sub (by rfl) 34 _ rfl ⟨g, 0, none⟩ rfl (.agg Z) ldX.out ?_)
  (with_reducible refine (HSm.out _).mono ?_); rintro e v5 ⟨rfl, hb1⟩
  replace hB := hB.trans (hb1.mono hB.size)
  clear hb1 ldX bX
  go_wp2_with fail
  (with_reducible refine (HW.out _).mono ?_); rintro e v6 ⟨rfl, hb1⟩
  replace hB := hB.trans (hb1.mono hB.size)
  clear hb1
  go_wp2_with fail
  go_ret
  exact ⟨rfl, hB⟩
end Tll
end Go.Proofs.Ytaoipbndmfjmhaa
