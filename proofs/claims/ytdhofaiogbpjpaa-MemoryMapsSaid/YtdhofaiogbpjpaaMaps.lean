/- MemoryMaps: the program and the reference translate alike. -/
import Derived.Test.YtdhofaiogbpjpaaAwake
import Derived.Test.YtdhofaiogbpjpaaLays
import Derived.Test.YtdhofaiogbpjpaaFrame
namespace Go.Proofs.Ytdhofaiogbpjpaa
open Go.RowKit Go.Joins
namespace Me
set_option maxRecDepth 100000 in
set_option maxHeartbeats 8000000 in
theorem maps_any (A : Option Addr) (c n : Nat) (L : List Rg) (hn : L.length = n) (hm : n ≤ maxLen) (part addr at' : Int) (w : World) (hA : isG A L w) :
    Calls Try.prog 4 #[.slice A n c, .int .i64 part, .int .i64 addr, .int .i64 at'] w fun e w' => e = .returned (.bool true) ∧ Below w.heap.size w w' := by
  have HW : Hid (∀ W : World, _) := fun W => awake_any W
  unfold maxLen at hm
  by_cases h200 : 200 < n
  · have hd : decide ((200 : Int) < n) = true := by simp; omega
    clear hA hn
    go_enter Try.func4, Try.ntmps4
    go_wp2_with fail
    (with_reducible refine (HW.out _).mono ?_); rintro _ w1 ⟨rfl, hb⟩
    go_wp2_with fail
    go_ret
    exact ⟨rfl, hb⟩
  have hd : decide ((200 : Int) < n) = false := by simp; omega
  have HT : Hid (∀ W, Below w.heap.size w W → _) := fun W h => trans_any A c n L hn (by omega) part addr W (hA.keep h)
  have HRT : Hid (∀ W, Below w.heap.size w W → _) := fun W h => rtrans_any A c n L hn (by omega) part addr W (hA.keep h)
  have HO : Hid (∀ W, Below w.heap.size w W → _) := fun W h => owner_any A c n L hn (by omega) at' W (hA.keep h)
  have HRO : Hid (∀ W, Below w.heap.size w W → _) := fun W h => rowner_any A c n L hn (by omega) at' W (hA.keep h)
  have HN : Hid (∀ W, Below w.heap.size w W → _) := fun W h => near_any A c n L hn (by omega) W (hA.keep h)
  generalize trR L part addr = t at *
  generalize owR L at' = o at *
  obtain ⟨t1, t2⟩ := t
  obtain ⟨o1, o2, o3⟩ := o
  have q1 : (t1 == t1) = true := by simp
  have q2 : (t2 == t2) = true := by simp
  have q3 : (o1 == o1) = true := by simp
  have q4 : (o2 == o2) = true := by simp
  have q5 : (o3 == o3) = true := by simp
  simp only at HT HRT HO HRO
  clear hA hn
  go_enter Try.func4, Try.ntmps4
  go_wp2_with fail
  (with_reducible refine (HT.out _ (Below.refl _ _)).mono ?_); rintro _ w1 ⟨rfl, hB⟩
  go_wp2_with fail
  (with_reducible refine (HRT.out _ hB).mono ?_); rintro _ w2 ⟨rfl, rfl⟩
  go_wp2_with fail
  (with_reducible refine (HO.out _ hB).mono ?_); rintro _ w3 ⟨rfl, hb⟩
  replace hB := hB.trans (hb.mono hB.size)
  clear hb
  go_wp2_with fail
  (with_reducible refine (HRO.out _ hB).mono ?_); rintro _ w4 ⟨rfl, hb⟩
  replace hB := hB.trans (hb.mono hB.size)
  clear hb
  go_wp2_with fail
  (with_reducible refine (HN.out _ hB).mono ?_); rintro _ w5 ⟨rfl | rfl, rfl⟩
  all_goals
    go_wp2_with fail
    (with_reducible refine (HW.out _).mono ?_); rintro _ w6 ⟨rfl, hb⟩
    replace hB := hB.trans (hb.mono hB.size)
    go_wp2_with fail
    go_ret
    exact ⟨rfl, hB⟩
theorem maps_walk (A : Option Addr) (c : Nat) (L : List Rg) (part addr at' : Int) (w : World) (hA : isG A L w) (_ : Bd L) (hm : L.length ≤ maxLen) (_ : -9223372036854775808 ≤ part) (_ : part ≤ 9223372036854775807) (_ : -9223372036854775808 ≤ addr) (_ : addr ≤ 9223372036854775807) (_ : -9223372036854775808 ≤ at') (_ : at' ≤ 9223372036854775807) :
    Calls Try.prog 4 #[.slice A L.length c, .int .i64 part, .int .i64 addr, .int .i64 at'] w fun e w' => e = .returned (.bool true) ∧ Below w.heap.size w w' := maps_any A c _ L rfl hm part addr at' w hA
end Me
end Go.Proofs.Ytdhofaiogbpjpaa
