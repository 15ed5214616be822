/- MemoryTells: Layout and Valid answer as the reference does. -/
import Derived.Test.YtdhofaiogbpjpaaAwake
import Derived.Test.YtdhofaiogbpjpaaLays
import Derived.Test.YtdhofaiogbpjpaaFrame
namespace Go.Proofs.Ytdhofaiogbpjpaa
open Go.RowKit Go.Joins
namespace Me
set_option maxRecDepth 100000 in
set_option maxHeartbeats 8000000 in
theorem tells_any (s : ByteArray) (mem0 fr : Int) (A : Option Addr) (n c : Nat) (Ps : List Pt) (B : Option Addr) (cb k : Nat) (L : List Rg) (mem : Int) (w : World) (hn : Ps.length = n) (hA : isP A Ps w) (hk : L.length = k) (hm : k ≤ maxLen) (hB : isG B L w) (hbd : Bd L) :
    Calls Try.prog 3 #[mdV s mem0 fr A n c, .slice B k cb, .int .i64 mem] w fun e w' => e = .returned (.bool true) ∧ Below w.heap.size w w' := by
  have HW : Hid (∀ W : World, _) := fun W => awake_any W
  have hB0 := (Below.refl w.heap.size w).alloc (Nat.le_refl _) (.cells #[.string s, .int .i64 mem0, .int .i64 fr, .slice A n c] 24)
  unfold maxLen at hm
  by_cases h200 : 200 < k
  · have hd : decide ((200 : Int) < k) = true := by simp; omega
    clear hA hB
    simp only [mdV]
    go_enter Try.func3, Try.ntmps3
    go_wp2_with fail
    (with_reducible refine (HW.out _).mono ?_); rintro _ w1 ⟨rfl, hb⟩
    have hB1 := below_alloc_trans hb
    go_wp2_with fail
    go_ret
    exact ⟨rfl, hB1⟩
  have hd : decide ((200 : Int) < k) = false := by simp; omega
  have HL := Lib.hid (lays_any s mem0 fr A c n Ps hn B cb k L hk (by omega) hbd mem _ (hA.keep hB0) (hB.keep hB0))
  clear hA hB hbd
  simp only [mdV] at *
  go_enter Try.func3, Try.ntmps3
  go_wp2_with fail
  (with_reducible refine (HL.out).mono ?_); rintro _ w1 ⟨rfl, hb⟩
  have hB1 := hB0.trans (hb.mono hB0.size)
  clear hb HL hB0
  go_wp2_with fail
  (with_reducible refine (HW.out _).mono ?_); rintro _ w2 ⟨rfl, hb⟩
  have hB2 := hB1.trans (hb.mono hB1.size)
  go_wp2_with fail
  go_ret
  exact ⟨rfl, hB2⟩
theorem tells_walk (s : ByteArray) (mem0 fr : Int) (A : Option Addr) (n c : Nat) (Ps : List Pt) (B : Option Addr) (cb : Nat) (L : List Rg) (mem : Int) (w : World) (hn : Ps.length = n) (hA : isP A Ps w) (_ : n ≤ maxLen) (_ : -9223372036854775808 ≤ mem0 ∧ mem0 ≤ 9223372036854775807) (_ : ∀ z ∈ Ps.map Pt.z, -9223372036854775808 ≤ z ∧ z ≤ 9223372036854775807) (hB : isG B L w) (hbd : Bd L) (hm : L.length ≤ maxLen) (_ : -9223372036854775808 ≤ mem) (_ : mem ≤ 9223372036854775807) :
    Calls Try.prog 3 #[mdV s mem0 fr A n c, .slice B L.length cb, .int .i64 mem] w fun e w' => e = .returned (.bool true) ∧ Below w.heap.size w w' := tells_any s mem0 fr A n c Ps B cb _ L mem w hn hA rfl hm hB hbd
end Me
end Go.Proofs.Ytdhofaiogbpjpaa
