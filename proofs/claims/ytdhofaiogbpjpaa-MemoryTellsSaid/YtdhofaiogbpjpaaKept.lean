/- KeptRegions. -/
import Derived.Test.YtdhofaiogbpjpaaLent
import Derived.Test.YtdhofaiogbpjpaaCls
namespace Go.Proofs.Ytdhofaiogbpjpaa
open Go.RowKit Go.Joins
namespace Me
theorem isG.take' {A : Option Addr} {L M : List Rg} {w : World} (h : isG A (L ++ M) w) : isG A L w := by
  have := h.take L.length
  rwa [List.take_left'] at this
  rfl
set_option maxRecDepth 100000 in
set_option maxHeartbeats 8000000 in
theorem kept_any (A B : Option Addr) (ca cb n : Nat) (L : List Rg) (hn : L.length = n) (hn1 : n ≤ 100000) (hca : n + 12 ≤ ca) (w : World) (hA : isG A (L ++ marks 12) w) (hB0 : isG B L w) :
    Calls Try.prog 31 #[.slice A n ca, .slice B n cb] w fun e w' => e = .returned (.bool true) ∧ Below w.heap.size w w' := by
  have HM : Hid (∀ (i : Nat) (W : World), i ≤ 1000 → _) := fun i W h => markR_any i h W
  obtain ⟨ab, ao, rfl, hal, -⟩ := hA (by intro h; have := congrArg List.length h; simp [marks_len] at this)
  have HA := Lib.hid hA
  have HB := Lib.hid hB0
  have HL := Lib.hid hn
  have hnn : ((n : Int) != n) = false := by simp
  clear hA hB0 hn
  go_enter Try.func31, Try.ntmps31
  go_wp2_with fail
  clear hnn
  go_loopw [6] (fun i wr => ∃ k : Nat, k ≤ n + 12 ∧ i = .int .i64 k ∧ Below w.heap.size w wr)
    (fun i _ => n + 12 - (intOf i).toNat)
  case atStart => exact ⟨0, Nat.zero_le _, rfl, Below.refl _ _⟩
  case round =>
    obtain ⟨k, hk, rfl, hB⟩ := hrel
    by_cases hlt : k < n + 12
    · have hdl : decide ((k : Int) < (n + 12 : Nat)) = true := by simp; omega
      have hdl' : decide ((k : Int) < (n : Int) + 12) = true := by simp; omega
      by_cases hkn : k < n
      · have hd1 : decide ((k : Int) < n) = true := by simp; omega
        have hd2 : decide (n ≤ k) = false := by simp; omega
        have hd3 : decide (k < n) = true := by simp; omega
        have hx : L[k]? = some (L[k]'(by rw [HL.out]; exact hkn)) := List.getElem?_eq_getElem _
        obtain ⟨x, hxe⟩ : ∃ x, L[k]'(by rw [HL.out]; exact hkn) = x := ⟨_, rfl⟩
        rw [hxe] at hx
        obtain ⟨gb, ob, rfl, hlb, y0, y1, y2⟩ := isG.at (HB.out.keep hB) hx
        obtain ⟨_, _, e, -, x0, x1, x2⟩ := isG.at (k := k) (x := x) (HA.out.keep hB) (by rw [List.getElem?_append_left (by rw [HL.out]; exact hkn)]; exact hx)
        simp only [Option.some.injEq, Addr.mk.injEq, and_true] at e
        obtain ⟨rfl, rfl⟩ := e
        have hal2 := Nat.lt_of_lt_of_le hal hB.size
        have heq := fun W => eqR_run x x W
        simp only [decide_true, rgV] at heq
        clear hx hxe
        go_wp2_with fail
        have gx0 := Gr.cell x0 hal2
        have gx1 := Gr.cell x1 hal2
        have gx2 := Gr.cell x2 hal2
        have gy0 := Gr.cell y0 hlb
        have gy1 := Gr.cell y1 hlb
        have gy2 := Gr.cell y2 hlb
        haveI : Nonempty (Wd (Gr wr)) := ⟨⟨wr, Below.refl _ _⟩⟩
        clear x0 x1 x2 y0 y1 y2 HM
        refine wp_region_cls (Gr wr) (by kernel_rfl) (by kernel_rfl) (Gr.start wr) ?_
        repeat (go_big_quiet_step (fail))
        refine wpQuiet_nil ?_
        intro _ hw'
        obtain ⟨s0, rfl⟩ := hw'
        have hR := hB.trans (Below.mono s0.ok hB.size)
        generalize s0.val = v1 at hR ⊢
        clear gx0 gx1 gx2 gy0 gy1 gy2 heq
        go_wp2_with fail
        go_roundw
        case rel => exact ⟨k + 1, by omega, by go_num, hR⟩
        case measure => simp [intOf]; omega
      · have hd1 : decide ((k : Int) < n) = false := by simp; omega
        have hd2 : decide ((n : Int) ≤ k) = true := by simp; omega
        have hd3 : decide (n ≤ k) = true := by simp; omega
        have hd4 : decide (k < n) = false := by simp; omega
        obtain ⟨i, hki⟩ : ∃ i, k = n + i := ⟨k - n, by omega⟩
        obtain ⟨_, _, e, -, x0, x1, x2⟩ := isG.at (k := k) (x := mkR i) (HA.out.keep hB) (by rw [hki, List.getElem?_append_right (by rw [HL.out]; omega), HL.out, Nat.add_sub_cancel_left]; exact marks_get 12 i (by omega))
        simp only [Option.some.injEq, Addr.mk.injEq, and_true] at e
        obtain ⟨rfl, rfl⟩ := e
        have hal2 := Nat.lt_of_lt_of_le hal hB.size
        have heq := fun W => eqR_run (mkR i) (mkR i) W
        have hsub : (k : Int) - n = i := by omega
        have HMs : Hid (∀ s : Wd (Gr wr), _) := fun s => HM.out i s.val (by omega)
        have Hki := Lib.hid hki
        clear hki
        have hcl : Hid (∀ W W' : World, Gr wr W → Below W.heap.size W W' → Gr wr W') := Gr.close
        simp only [decide_true, rgV] at heq HMs
        generalize (mkR i).p = mp at *
        generalize (mkR i).b = mb at *
        generalize (mkR i).s = ms at *
        go_wp2_with fail
        have gx0 := Gr.cell x0 hal2
        have gx1 := Gr.cell x1 hal2
        have gx2 := Gr.cell x2 hal2
        haveI : Nonempty (Wd (Gr wr)) := ⟨⟨wr, Below.refl _ _⟩⟩
        clear x0 x1 x2 HM
        refine wp_region_cls (Gr wr) (by kernel_rfl) (by kernel_rfl) (Gr.start wr) ?_
        repeat (go_big_quiet_step (first | (go_at_call 45; with_reducible exact Calls.cls hcl.out (HMs.out _))))
        refine wpQuiet_nil ?_
        intro _ hw'
        obtain ⟨s0, rfl⟩ := hw'
        have hR := hB.trans (Below.mono s0.ok hB.size)
        generalize s0.val = v1 at hR ⊢
        clear gx0 gx1 gx2 heq HMs hcl
        go_wp2_with fail
        go_roundw
        case rel => exact ⟨k + 1, by omega, by go_num, hR⟩
        case measure => simp [intOf]; omega
    · obtain rfl : k = n + 12 := by omega
      have hdl : decide (((n + 12 : Nat) : Int) < (n + 12 : Nat)) = false := by simp
      go_wp2_with fail
      go_ret
      exact ⟨rfl, hB⟩
end Me
end Go.Proofs.Ytdhofaiogbpjpaa
