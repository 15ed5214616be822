/- Merged texts: CBackB. -/
import Derived.Test.YtbncfknjgldcbaaGreatM14
import Derived.Test.YtbncfknjgldcbaaGreatM16
/- slices.Backward over frames, with rounds that may leave. -/
namespace Go.Proofs.YtbncfknjgldcbaaGreat
open Go.RowKit Go.Joins
attribute [local go_sem] Oper.semAt_some

set_option maxRecDepth 100000 in
set_option maxHeartbeats 2000000 in
theorem backw1_inB (n : Nat) (hn : 1 ≤ n) (lb Bs : Nat) (A : Option Addr) (cap : Nat) (l : List Sn) (hlen : l.length ≤ 4000) (J : List (Nat × Sn) → World → Prop) (D : World → Prop) (W : World)
    (hR : ∀ pre W1, J pre W1 → BackR Bs A cap l W1)
    (hY : ∀ pre x W1, J pre W1 → pre ++ [x] <+: backL l l.length → YieldAt Fence.wide (n - 1) Tryz.prog lb (encS x) W1 fun e W' => (e = .returned (.bool true) ∧ J (pre ++ [x]) W') ∨ (e = .returned (.bool false) ∧ D W'))
    (h0 : J [] W) :
    CallsIn Fence.wide n Tryz.prog 143 #[.func (.yield lb) #[] #[], .pointer (some ⟨Bs, 0, none⟩)] W fun e W' => (∃ v, e = .returned v) ∧ (J (backL l l.length) W' ∨ D W') := by
  have hro : Fence.wide.round = none := rfl
  have HR := Lib.hid hR
  have HY := Lib.hid hY
  have H0 := Lib.hid h0
  have cB : W.cell? ⟨Bs, 0, none⟩ = some (.slice A l.length cap) := (hR _ _ h0).box.cell 0
  clear hR hY h0
  refine callsIn_of_wp Tryz.func143 rfl trivial ?_ hro
  simp only [Tryz.ntmps143, List.size_toArray, List.length_cons, List.length_nil, Nat.reduceAdd, Nat.reduceSub, Array.replicate_succ, Array.replicate_zero, List.push_toArray, List.append_toArray, List.nil_append, List.cons_append]
  gi_wp2_with fail
  clear cB
  gi_loopw [3] (fun i wr => ∃ (k : Nat) (pre : List (Nat × Sn)), k ≤ l.length ∧ i = .int .i64 ((k : Int) - 1) ∧ J pre wr ∧ Hid (pre ++ backL l k = backL l l.length))
    (fun i _ => (intOf i + 1).toNat)
  case atStart => exact ⟨l.length, [], Nat.le_refl _, rfl, H0.out, rfl⟩
  case round =>
    obtain ⟨k, pre, hk, rfl, hj, hp⟩ := hrel
    cases k with
    | zero =>
      have hj' : Hid (J (backL l l.length) wr) := by unfold Hid; rw [← hp.out]; simpa [backL] using hj
      rw [show ((0 : Nat) : Int) - 1 = -1 from rfl]
      clear hp hj
      gi_wp2_with fail
      go_end0
      exact ⟨⟨_, rfl⟩, .inl hj'.out⟩
    | succ k =>
      rw [show ((k + 1 : Nat) : Int) - 1 = (k : Int) by omega]
      have hR2 := HR.out _ _ hj
      have hx : l[k]? = some (l[k]'(by omega)) := List.getElem?_eq_getElem _
      obtain ⟨x, hxe⟩ : ∃ x, l[k]'(by omega) = x := ⟨_, rfl⟩
      rw [hxe] at hx
      have hgx : l.getD k ⟨0, 0, 0⟩ = x := by rw [List.getD_eq_getElem?_getD, hx]; rfl
      have hpp : pre ++ [(k, x)] ++ backL l k = backL l l.length := by rw [← hp.out, backL, hgx]; simp
      obtain ⟨b, off, rfl, hb, hr⟩ := hR2.row (by intro h; subst h; simp at hx)
      obtain ⟨c0, c1, c2⟩ := hr k x hx
      have cB : wr.cell? ⟨Bs, 0, none⟩ = some (.slice (some ⟨b, off, none⟩) l.length cap) := hR2.box.cell 0
      obtain ⟨fn, tmps, assign, body, hyy, hR3⟩ := HY.out pre (k, x) wr hj ⟨backL l k, hpp⟩
      unfold encS at hyy
      have HR3 := Lib.hid hR3
      have Hpp := Lib.hid hpp
      have hkl : k < l.length := by omega
      have hd : decide ((0 : Int) ≤ k) = true := by simp
      clear hR3 hpp hgx hxe hx hr hR2 hp hj
      simp only [] at hyy
      gi_wp2_with fail
      refine HR3.out.mono ?_
      rintro e W3 (⟨rfl, hj3⟩ | ⟨rfl, hj3⟩)
      · clear hyy HR3 c0 c1 c2 cB
        gi_wp2_with fail
        go_roundw
        case rel => exact ⟨k, pre ++ [(k, x)], by omega, rfl, hj3, Hpp.out⟩
        case measure => simp [intOf] <;> omega
      · clear hyy HR3 c0 c1 c2 cB
        have Hj3 := Lib.hid hj3
        gi_wp2_with fail
        refine bodyPost_ret (results_none rfl _ _ _) rfl ?_
        exact ⟨⟨_, rfl⟩, .inr Hj3.out⟩


theorem backw_handsB (Bs : Nat) (A : Option Addr) (cap : Nat) (l : List Sn) (hlen : l.length ≤ 4000) (n : Nat) (hn : 1 ≤ n) (w : World) :
    HandsB Fence.wide n Tryz.prog 143 #[.pointer (some ⟨Bs, 0, none⟩)] encS (BackR Bs A cap l) (backL l l.length) w := fun lb J D W _ hR _ _ hY h0 => by
  have := backw1_inB n hn lb Bs A cap l hlen (fun s A => J s A ∧ W.heap.size ≤ A.heap.size) D W (fun s A h => hR s A h.1) (fun pre x W1 h1 h2 => by
    obtain ⟨fn, tmps, assign, body, hy, hr⟩ := hY pre x W1 h1.2 h1.1 h2
    exact ⟨fn, tmps, assign, body, hy, hr.mono fun e W' ⟨hk, h⟩ => h.elim (fun h => .inl ⟨h.1, h.2, Nat.le_trans h1.2 hk.b⟩) .inr⟩) ⟨h0, Nat.le_refl _⟩
  exact this.mono fun e W' ⟨h, k⟩ => ⟨h, k.elim (fun k => .inl k.1) .inr⟩
end Go.Proofs.YtbncfknjgldcbaaGreat
