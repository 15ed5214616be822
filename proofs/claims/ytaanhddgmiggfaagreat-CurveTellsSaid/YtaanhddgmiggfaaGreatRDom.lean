/- The reference's dominated. -/
import Derived.Test.YtaanhddgmiggfaaGreatRValid
namespace Go.Proofs.YtaanhddgmiggfaaGreat.Ref
open Go.RowKit Go.Joins Go.Shelf Go.Sort Num

theorem dom_at {c : List Buck} {i : Nat} {x : Buck} (hx : c[i]? = some x) : Dom c i ↔ ∃ (k : Nat) (y : Buck), c[k]? = some y ∧ ((y = x ∧ k < i) ∨ (y ≠ x ∧ y.le x)) := by
  constructor
  · rintro ⟨x', hx', h⟩
    rw [hx] at hx'
    cases hx'
    rcases h with ⟨k, h1, h2⟩ | ⟨k, y, h1, h2, h3⟩
    · exact ⟨k, x, h2, .inl ⟨rfl, h1⟩⟩
    · exact ⟨k, y, h1, .inr ⟨h2, h3⟩⟩
  · rintro ⟨k, y, h1, h⟩
    refine ⟨x, hx, ?_⟩
    rcases h with ⟨rfl, h2⟩ | ⟨h2, h3⟩
    · exact .inl ⟨k, h2, h1⟩
    · exact .inr ⟨k, y, h1, h2, h3⟩
def DomB (x : Buck) (i k : Nat) (y : Buck) : Prop := (y = x ∧ k < i) ∨ (y ≠ x ∧ y.le x)

set_option maxRecDepth 100000 in
set_option maxHeartbeats 4000000 in
theorem dom_any (A : Option Addr) (cap : Nat) (c : List Buck) (i : Nat) (x : Buck) (hx : c[i]? = some x) (hlen : c.length ≤ 1048576) (w : World) (hA : isC A cap c w) :
    Calls Tryz.prog 64 #[.slice A c.length cap, .int .i64 ↑i] w fun e w' => (∃ v, e = .returned (.bool v) ∧ (v = true ↔ Dom c i)) ∧ Below w.heap.size w w' := by
  have HC : Hid (∀ (x y : Buck) (W : World), _) := fun x y W => cmp_r x.hb y.hb W
  have HD : Hid (∀ (x y : Buck) (W : World), _) := fun x y W => cmp_r x.hr y.hr W
  have hil : i < c.length := (List.getElem?_eq_some_iff.1 hx).1
  obtain ⟨b, off, rfl, hb, hr⟩ := hA.cells (by intro h; subst h; simp at hil)
  have hD := Lib.hid (dom_at hx)
  have Hx := Lib.hid hx
  clear hx
  go_enter Tryz.func64, Tryz.ntmps64
  go_wp2_with fail
  go_loopw [5] (fun s wr => ∃ k : Nat, k ≤ c.length ∧ s = .int .i64 ↑k ∧ Hid (∀ j y, j < k → c[j]? = some y → ¬ DomB x i j y) ∧ Below w.heap.size w wr)
    (fun s _ => c.length - (intOf s).toNat)
  case atStart => exact ⟨0, Nat.zero_le _, rfl, fun j y h => absurd h (Nat.not_lt_zero _), Below.refl _ _⟩
  case round =>
    obtain ⟨k, hk, rfl, hno, hB⟩ := hrel
    by_cases hlt : k < c.length
    · have hy : c[k]? = some c[k] := List.getElem?_eq_getElem hlt
      obtain ⟨y, hye⟩ : ∃ y, c[k] = y := ⟨_, rfl⟩
      rw [hye] at hy
      have hrow := hr.below hB hb
      obtain ⟨x0, x1, x2, x3⟩ := hrow i x Hx.out
      obtain ⟨y0, y1, y2, y3⟩ := hrow k y hy
      have hbz : b < wr.heap.size := Nat.lt_of_lt_of_le hb hB.size
      have heql := fun W => eqlB_run (x := y) (y := x) W
      have hstep : Hid (¬ DomB x i k y → ∀ j y, j < k + 1 → c[j]? = some y → ¬ DomB x i j y) := fun h j y' hj hj' => by
        by_cases e : j = k
        · subst e
          rw [hy] at hj'
          cases hj'
          exact h
        · exact hno.out j y' (by omega) hj'
      have hyes : Hid (DomB x i k y → Dom c i) := fun h => hD.out.2 ⟨k, y, hy, h⟩
      have Hrow := Lib.hid hrow
      have Hy := Lib.hid hy
      clear hy hye hno hrow
      by_cases hyx : y = x
      · rw [decide_eq_true hyx] at heql
        have Hyx := Lib.hid hyx
        clear hyx
        go_wp2_with fail
        go_quiet (fail)
        rename_i nq
        replace hB := below_drewN hB nq
        clear x0 x1 x2 x3 y0 y1 y2 y3 heql
        generalize wr.drewN nq = wq at hB ⊢
        by_cases hki : k < i
        · have hd : Hid (Dom c i) := hyes.out (.inl ⟨Hyx.out, hki⟩)
          have z : (k : Int) < i := by omega
          go_wp2
          go_ret
          exact ⟨⟨true, rfl, by simp [hd.out]⟩, hB⟩
        · have hd := Lib.hid (hstep.out (fun h => by
            rcases h with ⟨_, h⟩ | ⟨h, _⟩
            · exact hki h
            · exact h Hyx.out))
          have z : decide ((k : Int) < i) = false := by simp; omega
          go_wp2
          go_roundw
          case rel => exact ⟨k + 1, by omega, by go_num, hd, hB⟩
          case measure => simp [intOf]; omega
      · rw [decide_eq_false hyx] at heql
        have Hyx := Lib.hid hyx
        clear hyx
        go_wp2_with fail
        go_quiet (fail)
        rename_i nq
        replace hB := below_drewN hB nq
        have hbd : Below wr.heap.size wr (wr.drewN nq) := below_drewN (Below.refl _ _) nq
        have hrow := Hrow.out.below hbd hbz
        have hbz2 : b < (wr.drewN nq).heap.size := Nat.lt_of_lt_of_le hbz hbd.size
        clear x0 x1 x2 x3 y0 y1 y2 y3 heql Hrow hbd hbz
        generalize wr.drewN nq = wq at hB hrow hbz2 ⊢
        obtain ⟨x0, x1, x2, x3⟩ := hrow i x Hx.out
        obtain ⟨y0, y1, y2, y3⟩ := hrow k y Hy.out
        go_wp2_with fail
        have p0 := Gr.cell x0 hbz2
        have p1 := Gr.cell x1 hbz2
        have p2 := Gr.cell x2 hbz2
        have p3 := Gr.cell x3 hbz2
        have q0 := Gr.cell y0 hbz2
        have q1 := Gr.cell y1 hbz2
        have q2 := Gr.cell y2 hbz2
        have q3 := Gr.cell y3 hbz2
        haveI : Nonempty (Wd (Gr wq)) := ⟨⟨wq, Below.refl _ _⟩⟩
        have hafter : ∀ s0 : Wd (Gr wq), Below w.heap.size w s0.val := fun s0 => hB.trans ((s0.ok : Below _ _ _).mono hB.size)
        have Haf := Lib.hid hafter
        have hle1 := @cmpQ_le y.b x.b
        have hle2 := @cmpQ_le y.r x.r
        have HC1 := HC.out y x
        have HD1 := HD.out y x
        generalize cmpQ y.b x.b = k1 at HC1 hle1
        generalize cmpQ y.r x.r = k2 at HD1 hle2
        have Hle1 := Lib.hid hle1
        have Hle2 := Lib.hid hle2
        have HC1 := Lib.hid HC1
        have HD1 := Lib.hid HD1
        clear hle1 hle2 hafter x0 x1 x2 x3 y0 y1 y2 y3 hrow
        by_cases h1 : k1 ≤ 0
        · by_cases h2 : k2 ≤ 0
          · have hd : Hid (Dom c i) := hyes.out (.inr ⟨Hyx.out, Hle1.out.1 h1, Hle2.out.1 h2⟩)
            refine wp_region_cls (Gr wq) (by kernel_rfl) (by kernel_rfl) (Gr.start wq) ?_
            repeat (go_big_quiet_step (first | (go_at_call 61; (with_reducible exact Calls.cls Gr.close (HC1.out _))) | (go_at_call 61; (with_reducible exact Calls.cls Gr.close (HD1.out _)))))
            refine wpQuiet_nil ?_
            intro _ hw'
            obtain ⟨s0, rfl⟩ := hw'
            have hB' := Haf.out s0
            clear p0 p1 p2 p3 q0 q1 q2 q3
            generalize s0.val = v1 at hB' ⊢
            go_wp2
            go_ret
            exact ⟨⟨true, rfl, by simp [hd.out]⟩, hB'⟩
          · have hd := Lib.hid (hstep.out (fun h => by
              rcases h with ⟨h, _⟩ | ⟨_, h⟩
              · exact Hyx.out h
              · exact h2 (Hle2.out.2 h.2)))
            have z2 : decide (k2 ≤ 0) = false := by simp; omega
            refine wp_region_cls (Gr wq) (by kernel_rfl) (by kernel_rfl) (Gr.start wq) ?_
            repeat (go_big_quiet_step (first | (go_at_call 61; (with_reducible exact Calls.cls Gr.close (HC1.out _))) | (go_at_call 61; (with_reducible exact Calls.cls Gr.close (HD1.out _)))))
            refine wpQuiet_nil ?_
            intro _ hw'
            obtain ⟨s0, rfl⟩ := hw'
            have hB' := Haf.out s0
            clear p0 p1 p2 p3 q0 q1 q2 q3
            generalize s0.val = v1 at hB' ⊢
            go_wp2
            go_roundw
            case rel => exact ⟨k + 1, by omega, by go_num, hd, hB'⟩
            case measure => simp [intOf]; omega
        · have hd := Lib.hid (hstep.out (fun h => by
            rcases h with ⟨h, _⟩ | ⟨_, h⟩
            · exact Hyx.out h
            · exact h1 (Hle1.out.2 h.1)))
          have z1 : decide (k1 ≤ 0) = false := by simp; omega
          refine wp_region_cls (Gr wq) (by kernel_rfl) (by kernel_rfl) (Gr.start wq) ?_
          repeat (go_big_quiet_step (first | (go_at_call 61; (with_reducible exact Calls.cls Gr.close (HC1.out _))) | (go_at_call 61; (with_reducible exact Calls.cls Gr.close (HD1.out _)))))
          refine wpQuiet_nil ?_
          intro _ hw'
          obtain ⟨s0, rfl⟩ := hw'
          have hB' := Haf.out s0
          clear p0 p1 p2 p3 q0 q1 q2 q3
          generalize s0.val = v1 at hB' ⊢
          go_wp2
          go_roundw
          case rel => exact ⟨k + 1, by omega, by go_num, hd, hB'⟩
          case measure => simp [intOf]; omega
    · obtain rfl : k = c.length := by omega
      have hd : Hid (¬ Dom c i) := fun h => by
        obtain ⟨j, y, h1, h2⟩ := hD.out.1 h
        exact hno.out j y (List.getElem?_eq_some_iff.1 h1).1 h1 h2
      clear hno
      go_wp2
      go_ret
      exact ⟨⟨false, rfl, by simp [hd.out]⟩, hB⟩
end Go.Proofs.YtaanhddgmiggfaaGreat.Ref
