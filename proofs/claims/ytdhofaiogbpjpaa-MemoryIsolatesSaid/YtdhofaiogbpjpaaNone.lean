/- MemoryNone: without a memory all functions report that. -/
import Derived.Test.YtdhofaiogbpjpaaAwake
import Derived.Test.YtdhofaiogbpjpaaFrame
namespace Go.Proofs.Ytdhofaiogbpjpaa
open Go.RowKit Go.Joins
namespace Me
/-- No memory: a nil pointer, or one to a block that New did not make. -/
def NoM (v : Value) (W : World) : Prop := v = .pointer none ∨ ∃ g cs, v = .pointer (some ⟨g, 0, none⟩) ∧ BoxN W g 63 cs ∧ cs[1]? = some (.bool false)
theorem NoM.keep {v : Value} {W W' : World} (h : NoM v W) (hb : Below W.heap.size W W') : NoM v W' := by
  rcases h with rfl | ⟨g, cs, rfl, h1, h2⟩
  · exact .inl rfl
  · exact .inr ⟨g, cs, rfl, h1.keep hb, h2⟩
set_option maxRecDepth 100000 in
theorem nomade_any (v : Value) (w : World) (h : NoM v w) : Calls Try.prog 42 #[v] w fun e w' => e = .returned (.bool false) ∧ w' = w := by
  rcases h with rfl | ⟨g, cs, rfl, h1, h2⟩
  · go_enter Try.func42, Try.ntmps42
    go_wp2_with fail
    go_ret
    exact ⟨rfl, rfl⟩
  · have hl := h1.lt
    have c1 := h1.cell 1
    rw [h2] at c1
    clear h1 h2
    go_enter Try.func42, Try.ntmps42
    go_wp2_with fail
    go_ret
    exact ⟨rfl, rfl⟩
set_option maxRecDepth 100000 in
theorem nocell_any (v : Value) (part addr : Int) (w : World) (h : NoM v w) : Calls Try.prog 41 #[v, .int .i64 part, .int .i64 addr] w fun e w' => e = .returned (.tuple #[.pointer none, .int .i64 1]) ∧ w' = w := by
  have HM := Lib.hid (nomade_any v w h)
  clear h
  go_enter Try.func41, Try.ntmps41
  go_wp2_with fail
  (with_reducible refine (HM.out).mono ?_); rintro _ w1 ⟨rfl, rfl⟩
  go_wp2_with fail
  go_ret2
  exact ⟨rfl, rfl⟩
set_option maxRecDepth 100000 in
theorem noload_any (v : Value) (part addr : Int) (w : World) (h : NoM v w) : Calls Try.prog 24 #[v, .int .i64 part, .int .i64 addr] w fun e w' => e = .returned (.tuple #[.int .u8 0, .int .i64 1]) ∧ w' = w := by
  have HM := Lib.hid (nocell_any v part addr w h)
  clear h
  go_enter Try.func24, Try.ntmps24
  go_wp2_with fail
  (with_reducible refine (HM.out).mono ?_); rintro _ w1 ⟨rfl, rfl⟩
  go_wp2_with fail
  go_ret2
  exact ⟨rfl, rfl⟩
set_option maxRecDepth 100000 in
theorem nostore_any (v : Value) (part addr z : Int) (w : World) (h : NoM v w) : Calls Try.prog 22 #[v, .int .i64 part, .int .i64 addr, .int .u8 z] w fun e w' => e = .returned (.int .i64 1) ∧ w' = w := by
  have HM := Lib.hid (nocell_any v part addr w h)
  clear h
  go_enter Try.func22, Try.ntmps22
  go_wp2_with fail
  (with_reducible refine (HM.out).mono ?_); rintro _ w1 ⟨rfl, rfl⟩
  go_wp2_with fail
  go_ret
  exact ⟨rfl, rfl⟩
set_option maxRecDepth 100000 in
theorem noclear_any (v : Value) (part : Int) (w : World) (h : NoM v w) : Calls Try.prog 25 #[v, .int .i64 part] w fun e w' => e = .returned (.int .i64 1) ∧ w' = w := by
  have HM := Lib.hid (nomade_any v w h)
  clear h
  go_enter Try.func25, Try.ntmps25
  go_wp2_with fail
  (with_reducible refine (HM.out).mono ?_); rintro _ w1 ⟨rfl, rfl⟩
  go_wp2_with fail
  go_ret
  exact ⟨rfl, rfl⟩
set_option maxRecDepth 100000 in
theorem nobytes_any (v : Value) (w : World) (h : NoM v w) : Calls Try.prog 23 #[v] w fun e w' => e = .returned (.slice none 0 0) ∧ w' = w := by
  have HM := Lib.hid (nomade_any v w h)
  clear h
  go_enter Try.func23, Try.ntmps23
  go_wp2_with fail
  (with_reducible refine (HM.out).mono ?_); rintro _ w1 ⟨rfl, rfl⟩
  go_wp2_with fail
  go_ret
  exact ⟨rfl, rfl⟩
def memZ : Array Value := (.slice none 0 0 :: .bool false :: .int .i64 0 :: List.replicate 4096 (.int .u8 0)).toArray
theorem zero_mem : ∀ w : World, (zeroValue 63).run Try.prog w = .ok (.agg memZ) w := fun _ => by kernel_rfl
theorem info_mem : (Try.prog.info? 63).map (·.size) = some 4099 := by kernel_rfl
theorem memZ_size : memZ.size = 4099 := by unfold memZ; simp only [List.size_toArray, List.length_cons, List.length_replicate]
theorem memZ_one : memZ.all (·.oneCell') = true := by
  rw [Array.all_eq_true']
  intro v hv
  simp only [memZ, List.mem_toArray, List.mem_cons, List.mem_replicate] at hv
  rcases hv with rfl | rfl | rfl | ⟨-, rfl⟩ <;> rfl
theorem memZ_made : memZ[1]? = some (.bool false) := by unfold memZ; rw [List.getElem?_toArray]; rfl
set_option maxRecDepth 100000 in
set_option maxHeartbeats 4000000 in
theorem none_any (part addr z : Int) (w : World) : Calls Try.prog 9 #[.int .i64 part, .int .i64 addr, .int .u8 z] w fun e w' => e = .returned (.bool true) ∧ Below w.heap.size w w' := by
  have HW : Hid (∀ W : World, _) := fun W => awake_any W
  have hz := zero_mem
  obtain ⟨Z, hZ⟩ : ∃ Z, memZ = Z := ⟨_, rfl⟩
  rw [hZ] at hz
  have hZ1 : Z[1]? = some (.bool false) := by rw [← hZ]; exact memZ_made
  have HLd : Hid (∀ (v : Value) (W : World), NoM v W → _) := fun v W h => noload_any v part addr W h
  have HSt : Hid (∀ (v : Value) (W : World), NoM v W → _) := fun v W h => nostore_any v part addr z W h
  have HCl : Hid (∀ (v : Value) (W : World), NoM v W → _) := fun v W h => noclear_any v part W h
  have HBy : Hid (∀ (v : Value) (W : World), NoM v W → _) := fun v W h => nobytes_any v W h
  have hbu : ∀ w : World, (Instr.build 63 #[]).run Try.prog w = .ok (.agg Z) w := fun w => by rw [← hZ]; kernel_rfl
  clear hZ
  go_enter Try.func9, Try.ntmps9
  go_wp2_with fail
  (with_reducible refine (HW.out _).mono ?_); rintro _ w1 ⟨rfl, hB1⟩
  clear HW
  go_wp2_with fail
  go_loopw [7] (fun i wr => ∃ k : Nat, k ≤ 2 ∧ i = .int .i64 k ∧ Below w.heap.size w wr)
    (fun i _ => 2 - (intOf i).toNat)
  case atStart => exact ⟨0, by omega, rfl, hB1⟩
  case round =>
    clear hB1
    obtain ⟨k, hk, rfl, hB⟩ := hrel
    by_cases hlt : k < 2
    · have hdl : decide ((k : Int) < 2) = true := by simp; omega
      have bZ := (BoxN.new wr 63 Z).alloc (.cells #[.pointer none, .pointer (some ⟨wr.heap.size, 0, none⟩)] 48)
      have bS := BoxN.new (wr.alloc (.cells Z 63)) 48 #[.pointer none, .pointer (some ⟨wr.heap.size, 0, none⟩)]
      have hB2 := (hB.alloc hB.size (.cells Z 63)).alloc (by have := hB.size; simp; omega) (.cells #[.pointer none, .pointer (some ⟨wr.heap.size, 0, none⟩)] 48)
      rw [World.size_alloc] at bS
      have hc : ∃ v, ((wr.alloc (.cells Z 63)).alloc (.cells #[.pointer none, .pointer (some ⟨wr.heap.size, 0, none⟩)] 48)).cell? ⟨wr.heap.size + 1, k, none⟩ = some v ∧ NoM v ((wr.alloc (.cells Z 63)).alloc (.cells #[.pointer none, .pointer (some ⟨wr.heap.size, 0, none⟩)] 48)) := by
        have : k = 0 ∨ k = 1 := by omega
        rcases this with rfl | rfl
        · exact ⟨_, (bS.cell 0).trans rfl, .inl rfl⟩
        · exact ⟨_, (bS.cell 1).trans rfl, .inr ⟨_, Z, rfl, bZ, hZ1⟩⟩
      obtain ⟨v, hcv, hno⟩ := hc
      have hgl := bS.lt
      clear bZ bS hB
      go_wp2_with fail
      have L1 := Lib.hid (HLd.out v _ hno)
      have L2 := Lib.hid (HSt.out v _ hno)
      have L3 := Lib.hid (HCl.out v _ hno)
      have L4 := Lib.hid (HBy.out v _ hno)
      clear hno hcv
      generalize (wr.alloc (.cells Z 63)).alloc (.cells #[.pointer none, .pointer (some ⟨wr.heap.size, 0, none⟩)] 48) = W5 at *
      (with_reducible refine (L1.out).mono ?_); rintro _ w5 ⟨rfl, rfl⟩
      go_wp2_with fail
      (with_reducible refine (L2.out).mono ?_); rintro _ w6 ⟨rfl, rfl⟩
      go_wp2_with fail
      (with_reducible refine (L3.out).mono ?_); rintro _ w7 ⟨rfl, rfl⟩
      go_wp2_with fail
      (with_reducible refine (L4.out).mono ?_); rintro _ w8 ⟨rfl, rfl⟩
      go_wp2_with fail
      go_roundw
      case rel => exact ⟨k + 1, by omega, by go_num, hB2⟩
      case measure => simp [intOf]; omega
    · obtain rfl : k = 2 := by omega
      have hdl : decide ((2 : Int) < 2) = false := by decide
      go_wp2_with fail
      go_ret
      exact ⟨rfl, hB⟩
theorem none_walk (part addr z : Int) (w : World) (_ : -9223372036854775808 ≤ part) (_ : part ≤ 9223372036854775807) (_ : -9223372036854775808 ≤ addr) (_ : addr ≤ 9223372036854775807) (_ : 0 ≤ z) (_ : z ≤ 255) :
    Calls Try.prog 9 #[.int .i64 part, .int .i64 addr, .int .u8 z] w fun e w' => e = .returned (.bool true) ∧ Below w.heap.size w w' := none_any part addr z w
end Me
end Go.Proofs.Ytdhofaiogbpjpaa
