/- The law package's awake: the examples of the chapter. -/
import Derived.Test.YtdoliblcilhneaaParse
import Derived.Lib.SlBytesConst
namespace Go.Proofs.Ytdoliblcilhneaa
open Go.RowKit Go.Joins
namespace Aw

theorem dg_nil : dg [] = 1628857101415283732#64 := by decide +kernel
theorem dg_a : dg [97] = 17836450613807704159#64 := by decide +kernel
theorem ad_a : ad start [97] = 11211366877501346434#64 := by decide +kernel
theorem prs_FF : prs [70, 70] = (0#64, 50) := by decide +kernel
theorem txt_255 : txt 255#64 = [48, 48, 48, 48, 48, 48, 48, 48, 48, 48, 48, 48, 48, 48, 102, 102] := by decide +kernel

set_option maxRecDepth 100000 in
set_option maxHeartbeats 4000000 in
theorem walk (w : World) : Calls Try.prog 10 #[] w fun e w' => e = .returned (.bool true) ∧ Below w.heap.size w w' := by
  have hcv := fun (w : World) (C : Array Value) (n c : Nat) => Lib.run_convert_bytes_const (P := Try.prog) w 22 5 C n c Try.underlying22 Try.underlying5
  have H1 : Hid (∀ W : World, Calls Try.prog 12 #[.string ⟨#[70, 70]⟩] W fun e w' => e = .returned (.tuple #[.int .u64 0, .int .i64 50]) ∧ Below W.heap.size W w') := fun W => by
    have := parse_any [70, 70] W
    unfold PrsPost at this
    rw [prs_FF] at this; exact this
  have H2 : Hid (∀ W : World, Calls Try.prog 17 #[.slice none 0 0] W fun e w' => e = .returned (.int .u64 1628857101415283732) ∧ Below W.heap.size W w') := fun W => by
    have := of_any none 0 [] (by decide) W (isB.nil _ _)
    rw [dg_nil] at this; exact this
  have H3 : Hid (∀ (W : World) (b c : Nat), isB (some ⟨b, 0, none⟩) [97] W → Calls Try.prog 17 #[.slice (some ⟨b, 0, none⟩) 1 c] W fun e w' => e = .returned (.int .u64 17836450613807704159) ∧ Below W.heap.size W w') := fun W b c h => by
    have := of_any _ c [97] (by decide) W h
    rw [dg_a] at this; exact this
  have H4 : Hid (∀ W : World, Calls Try.prog 25 #[] W fun e w' => e = .returned (St start 0#64) ∧ Below W.heap.size W w') := new_any
  have H5 : Hid (∀ (W : World) (b c : Nat), isB (some ⟨b, 0, none⟩) [97] W → Calls Try.prog 11 #[St start 0#64, .slice (some ⟨b, 0, none⟩) 1 c] W fun e w' => e = .returned (.agg #[.int .u64 11211366877501346434, .int .i64 1]) ∧ Below W.heap.size W w') := fun W b c h => by
    have := add_any _ c [97] (by decide) start 0#64 W h
    rw [ad_a] at this; exact this
  have H6 : Hid (∀ W : World, Calls Try.prog 21 #[.int .u64 255] W fun e w' => e = .returned (.string ⟨#[48, 48, 48, 48, 48, 48, 48, 48, 48, 48, 48, 48, 48, 48, 102, 102]⟩) ∧ Below W.heap.size W w') := fun W => by
    have := text_any 255#64 W
    rw [txt_255] at this; exact this
  go_enter Try.func10, Try.ntmps10
  go_wp2_with fail
  (with_reducible refine (H1.out _).mono ?_); rintro e w1 ⟨rfl, hb1⟩
  go_wp2_with fail
  (with_reducible refine (H2.out _).mono ?_); rintro e w2 ⟨rfl, hb2⟩
  replace hb2 := hb1.trans (hb2.mono hb1.size)
  clear hb1
  generalize start = st at H4 H5
  go_wp2_with fail
  have hA := hb2.alloc hb2.size (.cells #[.int .u8 97] 5 (1, 2))
  (with_reducible refine (H3.out _ _ _ (isB_lit w2 [97] #[.int .u8 97] rfl (1, 2))).mono ?_); rintro e w3 ⟨rfl, hb3⟩
  replace hb3 := hA.trans (hb3.mono hA.size)
  clear hA hb2
  go_wp2_with fail
  (with_reducible refine (H4.out _).mono ?_); rintro e w4 ⟨rfl, hb4⟩
  replace hb4 := hb3.trans (hb4.mono hb3.size)
  clear hb3
  go_wp2_with fail
  have hA := hb4.alloc hb4.size (.cells #[.int .u8 97] 5 (1, 2))
  (with_reducible refine (H5.out _ _ _ (isB_lit w4 [97] #[.int .u8 97] rfl (1, 2))).mono ?_); rintro e w5 ⟨rfl, hb5⟩
  replace hb5 := hA.trans (hb5.mono hA.size)
  clear hA hb4
  go_wp2_with fail
  (with_reducible refine (H6.out _).mono ?_); rintro e w6 ⟨rfl, hb6⟩
  replace hb6 := hb5.trans (hb6.mono hb5.size)
  clear hb5
  go_wp2_with fail
  go_ret
  exact ⟨rfl, hb6⟩
end Aw
end Go.Proofs.Ytdoliblcilhneaa
