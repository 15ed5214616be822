/- The contracts of New and of a signer's methods. -/
import Derived.Test.YtaoipbndmfjmhaaSign
import Derived.Test.YtaoipbndmfjmhaaInvP
namespace Go.Proofs.Ytaoipbndmfjmhaa
open Go.RowKit Go.Joins

/-- A signer that New did not make. -/
def NoS (p : Value) (W : World) : Prop := p = .pointer none ∨ ∃ g a b c, p = .pointer (some ⟨g, 0, none⟩) ∧ BoxN W g 63 #[.bool false, a, b, c]
theorem NoS.keep {p : Value} {W W' : World} (h : NoS p W) (hb : Below W.heap.size W W') : NoS p W' := by
  rcases h with h | ⟨g, a, b, c, h1, h2⟩
  · exact .inl h
  · exact .inr ⟨g, a, b, c, h1, h2.keep hb⟩
/-- A signer. -/
def SgC (m : Bool) (seed : BitVec 64) (h u : Nat) : Array Value := #[.bool m, U64 seed, .int .i64 h, .int .i64 u]

set_option maxRecDepth 100000 in
theorem made_no (p : Value) (w : World) (hp : NoS p w) :
    Calls Try.prog 52 #[p] w fun e w' => e = .returned (.bool false) ∧ Below w.heap.size w w' := by
  have hB := Below.refl w.heap.size w
  rcases hp with rfl | ⟨g, a, b, c, rfl, hb⟩
  · go_enter Try.func52, Try.ntmps52
    go_wp2_with fail
    go_ret
    exact ⟨rfl, hB⟩
  · have c0 := hb.cell 0
    have hl := hb.lt
    simp at c0
    clear hb
    go_enter Try.func52, Try.ntmps52
    go_wp2_with fail
    go_ret
    exact ⟨rfl, hB⟩
set_option maxRecDepth 100000 in
theorem made_yes (g : Nat) (seed : BitVec 64) (h u : Nat) (w : World) (hb : BoxN w g 63 (SgC true seed h u)) :
    Calls Try.prog 52 #[.pointer (some ⟨g, 0, none⟩)] w fun e w' => e = .returned (.bool true) ∧ Below w.heap.size w w' := by
  have hB := Below.refl w.heap.size w
  have c0 := hb.cell 0
  have hl := hb.lt
  simp [SgC] at c0
  clear hb
  go_enter Try.func52, Try.ntmps52
  go_wp2_with fail
  go_ret
  exact ⟨rfl, hB⟩
set_option maxRecDepth 100000 in
theorem left_no (p : Value) (w : World) (hp : NoS p w) :
    Calls Try.prog 31 #[p] w fun e w' => e = .returned (.int .i64 0) ∧ Below w.heap.size w w' := by
  have HM := Lib.hid (made_no p w hp)
  have hB := Below.refl w.heap.size w
  clear hp
  go_enter Try.func31, Try.ntmps31
  go_wp2_with fail
  (with_reducible refine HM.out.mono ?_); rintro e w1 ⟨rfl, hb1⟩
  replace hB := hB.trans (hb1.mono hB.size)
  go_wp2_with fail
  go_ret
  exact ⟨rfl, hB⟩
set_option maxRecDepth 100000 in
theorem mroot_no (p : Value) (w : World) (hp : NoS p w) :
    Calls Try.prog 30 #[p] w fun e w' => e = .returned (.int .u64 0) ∧ Below w.heap.size w w' := by
  have HM := Lib.hid (made_no p w hp)
  have hB := Below.refl w.heap.size w
  clear hp
  go_enter Try.func30, Try.ntmps30
  go_wp2_with fail
  (with_reducible refine HM.out.mono ?_); rintro e w1 ⟨rfl, hb1⟩
  replace hB := hB.trans (hb1.mono hB.size)
  go_wp2_with fail
  go_ret
  exact ⟨rfl, hB⟩
set_option maxRecDepth 100000 in
set_option maxHeartbeats 1000000 in
theorem msign_no (p : Value) (d : BitVec 64) (w : World) (hp : NoS p w) :
    Calls Try.prog 32 #[p, U64 d] w fun e w' => e = .returned (.tuple #[.agg #[.int .i64 0, .int .u64 0, .int .u64 0, .int .u64 0, .int .u64 0, .int .u64 0, .int .u64 0, .int .u64 0, .int .u64 0, .int .u64 0, .int .u64 0, .int .u64 0, .int .u64 0, .int .u64 0, .int .u64 0, .int .u64 0, .int .u64 0, .int .u64 0, .int .u64 0, .slice none 0 0], .int .i64 1]) ∧ Below w.heap.size w w' := by
  have HM : Hid (∀ W, Below w.heap.size w W → _) := fun W hb => made_no p W (hp.keep hb)
  have hzs := zero_sig
  have hi2 : (Try.prog.info? 34).map (·.size) = some (#[.int .i64 0, .int .u64 0, .int .u64 0, .int .u64 0, .int .u64 0, .int .u64 0, .int .u64 0, .int .u64 0, .int .u64 0, .int .u64 0, .int .u64 0, .int .u64 0, .int .u64 0, .int .u64 0, .int .u64 0, .int .u64 0, .int .u64 0, .int .u64 0, .int .u64 0, .slice none 0 0] : Array Value).size := info_sig
  have ho2 : (#[.int .i64 0, .int .u64 0, .int .u64 0, .int .u64 0, .int .u64 0, .int .u64 0, .int .u64 0, .int .u64 0, .int .u64 0, .int .u64 0, .int .u64 0, .int .u64 0, .int .u64 0, .int .u64 0, .int .u64 0, .int .u64 0, .int .u64 0, .int .u64 0, .int .u64 0, .slice none 0 0] : Array Value).all (·.oneCell') = true := by decide +kernel
  obtain ⟨Z, hZ⟩ : ∃ Z, (#[.int .i64 0, .int .u64 0, .int .u64 0, .int .u64 0, .int .u64 0, .int .u64 0, .int .u64 0, .int .u64 0, .int .u64 0, .int .u64 0, .int .u64 0, .int .u64 0, .int .u64 0, .int .u64 0, .int .u64 0, .int .u64 0, .int .u64 0, .int .u64 0, .int .u64 0, .slice none 0 0] : Array Value) = Z := ⟨_, rfl⟩
  rw [hZ] at hzs hi2 ho2 ⊢
  clear hZ hp
  go_enter Try.func32, Try.ntmps32
  go_wp2_with fail
  have b8 : BoxN (w.alloc (.cells Z 34)) w.heap.size 34 Z := BoxN.new w _ _
  have hB : Below w.heap.size w (w.alloc (.cells Z 34)) := (Below.refl _ w).alloc (Nat.le_refl _) _
  generalize w.alloc (.cells Z 34) = w0 at b8 hB ⊢
  (with_reducible refine (HM.out _ hB).mono ?_); rintro e w1 ⟨rfl, hb1⟩
  replace b8 := b8.keep hb1
  replace hB := hB.trans (hb1.mono hB.size)
  have b8' : w1.heap[w.heap.size]? = some (.cells Z 34 (0, 0)) := b8
  have b2 : BoxN (w1.setRow w.heap.size Z) w.heap.size 34 Z := b8.setRow _
  have hB2 := below_setRow hB (Nat.le_refl w.heap.size) Z
  go_wp2_with (refine wpList_store_rowTo rfl 34 _ _ rfl rfl w.heap.size Z rfl rfl _ Z b8' hi2 rfl ho2 ?_)
  exact bodyPost_ret (v := .tuple #[.agg Z, .int .i64 1]) (results_cell_tmp Try.results32 _ _ w.heap.size _ Z _ rfl b2 Try.underlying34 rfl hi2) rfl ⟨rfl, hB2⟩
set_option maxRecDepth 100000 in
theorem new_bad (seed : BitVec 64) (h : Int) (hh : okH h = false) (w : World) :
    Calls Try.prog 29 #[U64 seed, .int .i64 h] w fun e w' => e = .returned (.tuple #[.pointer none, .int .i64 2]) ∧ Below w.heap.size w w' := by
  have HH : Hid (∀ W : World, Calls Try.prog 42 #[.int .i64 h] W fun e w' => e = .returned (.bool false) ∧ Below W.heap.size W w') := fun W => by
    have := isHeight_any h W
    rwa [hh] at this
  have hB := Below.refl w.heap.size w
  clear hh
  go_enter Try.func29, Try.ntmps29
  go_wp2_with fail
  (with_reducible refine (HH.out _).mono ?_); rintro e w1 ⟨rfl, hb1⟩
  replace hB := hB.trans (hb1.mono hB.size)
  go_wp2_with fail
  go_ret2
  exact ⟨rfl, hB⟩
end Go.Proofs.Ytaoipbndmfjmhaa
