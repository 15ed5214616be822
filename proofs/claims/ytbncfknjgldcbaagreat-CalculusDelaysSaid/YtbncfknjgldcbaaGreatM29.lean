/- Merged texts: CDlN, CDlC, CDlB, CDlF, CDlS. -/
import Derived.Test.YtbncfknjgldcbaaGreatM26
import Derived.Test.YtbncfknjgldcbaaGreatM27
import Derived.Test.YtbncfknjgldcbaaGreatM28
/- CalculusDelays' numbers: two curves of a single bucket each. -/
namespace Go.Proofs.YtbncfknjgldcbaaGreat.Mx
open Go.RowKit Go.Joins Go.Shelf Go.Sort Num BrkLaw

/-- The bucket of a flow. -/
def flB (gap : Int) : Buck := mkBuck 72 (Rat.divInt 72 gap)
section
variable {gap : Int} (hg : 150 ≤ gap ∧ gap ≤ 650)
include hg
theorem gap_gd : Gd gap.toNat 72 (Rat.divInt 72 gap) := ⟨72, by decide, by rw [show ((gap.toNat : Nat) : Int) = gap by omega]⟩
theorem fl_h : (Fit (72 : Rat) ∧ Fit (Rat.divInt 72 gap)) ∧ ((0 : Rat) ≤ 72 ∧ 0 ≤ Rat.divInt 72 gap) :=
  ⟨⟨⟨by decide, by decide⟩, gd_fit (gap_gd hg) (by omega) (by omega) (by decide)⟩, by decide, Rat.divInt_nonneg (by decide) (by omega)⟩
theorem fl_b : (flB gap).b = 72 := mk_b (fl_h hg)
theorem fl_r : (flB gap).r = Rat.divInt 72 gap := mk_r (fl_h hg)
end
section
variable {gap hap : Int} (hg : 150 ≤ gap ∧ gap ≤ 650) (hh : 150 ≤ hap ∧ hap ≤ 650)
include hg hh
theorem two_rate : Rat.divInt 72 gap + Rat.divInt 72 hap = Rat.divInt (72 * (gap + hap)) (gap * hap) := by
  rw [Rat.divInt_eq_div, Rat.divInt_eq_div, Rat.divInt_eq_div, Rat.intCast_mul, Rat.intCast_mul, Rat.intCast_add]
  have h1 : (gap : Rat) ≠ 0 := fun e => by have := Rat.intCast_inj.1 (e.trans Rat.intCast_zero.symm); omega
  have h2 : (hap : Rat) ≠ 0 := fun e => by have := Rat.intCast_inj.1 (e.trans Rat.intCast_zero.symm); omega
  have h72 : ((72 : Int) : Rat) = 72 := rfl
  rw [h72]
  grind
theorem two_gd : Gd (gap.toNat * hap.toNat) 93600 (Rat.divInt 72 gap + Rat.divInt 72 hap) := by
  rw [two_rate hg hh]
  exact ⟨72 * (gap + hap), by omega, by rw [Int.natCast_mul, show ((gap.toNat : Nat) : Int) = gap by omega, show ((hap.toNat : Nat) : Int) = hap by omega]⟩
theorem gh_bd : 0 < gap.toNat * hap.toNat ∧ gap.toNat * hap.toNat ≤ 422500 := by
  constructor
  · exact Nat.mul_pos (by omega) (by omega)
  · exact Nat.mul_le_mul (show gap.toNat ≤ 650 by omega) (show hap.toNat ≤ 650 by omega)
theorem two_rates : rateO [[flB gap], [flB hap]] = some (Rat.divInt 72 gap + Rat.divInt 72 hap) := by
  have h := gh_bd hg hh
  show addO (addO (some 0) (some (flB gap).r)) (some (flB hap).r) = _
  rw [addO_some, Rat.zero_add, if_pos (flB gap).hr, addO_some, fl_r hg, fl_r hh, if_pos (gd_fit (two_gd hg hh) h.1 (by omega) (by decide))]
omit hg hh in
theorem two_brks : brksOk [[flB gap], [flB hap]] := fun c hc p hp => by
  simp only [List.mem_cons, List.not_mem_nil, or_false] at hc
  rcases hc with rfl | rfl <;> rw [norm_one] at hp <;> simp [twosL] at hp
omit hg hh in
theorem two_pts : ptsL [[flB gap], [flB hap]] = [] := by
  unfold ptsL
  rw [List.flatMap_cons, List.flatMap_cons, brk_one, brk_one]
  rfl
theorem two_prep (r : Rat) : prepE [[flB gap], [flB hap]] r = if r < Rat.divInt 72 gap + Rat.divInt 72 hap then 6 else 0 := by
  unfold prepE
  rw [if_pos two_brks, two_rates hg hh]
/-- The total at a whole point. -/
theorem two_tot {z : Int} (hz : 0 ≤ z ∧ z ≤ 255) : totO [[flB gap], [flB hap]] z = some (144 + (Rat.divInt 72 gap + Rat.divInt 72 hap) * z) ∧ Gd (gap.toNat * hap.toNat) 100000000 (144 + (Rat.divInt 72 gap + Rat.divInt 72 hap) * z) := by
  have h := gh_bd hg hh
  have at1 : ∀ {g : Int}, 150 ≤ g ∧ g ≤ 650 → atO z [flB g] = some (72 + Rat.divInt 72 g * z) ∧ Fit (72 + Rat.divInt 72 g * z) := fun {g} k => by
    have g1 : Gd g.toNat (72 * 255) (Rat.divInt 72 g * z) := by have := gd_mul (gap_gd k) (gd_int (Z := 255) hz); rwa [Nat.mul_one] at this
    have g2 := gd_add (gd_up (K := 72) g.toNat (by omega) (gd_int (Z := 72) (z := 72) (by decide))) g1
    have f1 := gd_fit g1 (by omega) (by omega) (by decide)
    have f2 : Fit (72 + Rat.divInt 72 g * z) := gd_fit g2 (by omega) (by omega) (by omega)
    have e : valQ (flB g) z = 72 + Rat.divInt 72 g * z := by unfold valQ; rw [fl_b k, fl_r k]
    refine ⟨?_, f2⟩
    show (if ∀ x ∈ [flB g], okv x z then some (minV [flB g] z) else none) = _
    rw [if_pos (fun x hx => by rw [List.mem_singleton.1 hx]; exact ⟨by rw [fl_r k]; exact f1, by rw [e]; exact f2⟩)]
    show some (valQ (flB g) z) = _
    rw [e]
  obtain ⟨a1, a2⟩ := at1 hg
  obtain ⟨b1, b2⟩ := at1 hh
  have e : 72 + Rat.divInt 72 gap * z + (72 + Rat.divInt 72 hap * z) = 144 + (Rat.divInt 72 gap + Rat.divInt 72 hap) * z := by grind
  have g3 : Gd (gap.toNat * hap.toNat) (93600 * 255) ((Rat.divInt 72 gap + Rat.divInt 72 hap) * z) := by have := gd_mul (two_gd hg hh) (gd_int (Z := 255) hz); rwa [Nat.mul_one] at this
  have g4 := gd_add (gd_up (K := 144) (gap.toNat * hap.toNat) h.1 (gd_int (Z := 144) (z := 144) (by decide))) g3
  have g5 : Gd (gap.toNat * hap.toNat) 100000000 (144 + (Rat.divInt 72 gap + Rat.divInt 72 hap) * z) := gd_mono g4 (by omega)
  refine ⟨?_, g5⟩
  show addO (addO (some 0) (atO z [flB gap])) (atO z [flB hap]) = _
  rw [a1, b1, addO_some, Rat.zero_add, if_pos a2, addO_some, e, if_pos (gd_fit g5 h.1 (by omega) (by decide))]
/-- When the server is too slow. -/
theorem slow_iff {k : Int} (hk : 1 ≤ k ∧ k ≤ 2) : Rat.divInt 1 k < Rat.divInt 72 gap + Rat.divInt 72 hap ↔ gap * hap < k * (72 * (gap + hap)) := by
  rw [two_rate hg hh]
  have hG : 0 < gap * hap := Int.mul_pos (by omega) (by omega)
  rw [Rat.lt_iff_sub_pos, show Rat.divInt (72 * (gap + hap)) (gap * hap) - Rat.divInt 1 k = Rat.divInt (72 * (gap + hap) * k - 1 * (gap * hap)) (gap * hap * k) from Rat.divInt_sub_divInt _ _ (by omega) (by omega), dv_pos (Int.mul_pos hG (by omega))]
  rw [Int.mul_comm k]
  omega
end
end Go.Proofs.YtbncfknjgldcbaaGreat.Mx
/- Conforms of a flow with gaps answers true. -/
namespace Go.Proofs.YtbncfknjgldcbaaGreat.Mx
open Go.RowKit Go.Joins Go.Shelf Go.Sort Num BrkLaw

theorem fl_nd {gap : Int} (hg : 150 ≤ gap ∧ gap ≤ 650) : (flB gap).r.num * gap = 72 * ((flB gap).r.den : Int) := by
  rw [fl_r hg]
  have h := Rat.num_divInt_den (Rat.divInt 72 gap)
  have h0 : (0 : Int) < ((Rat.divInt 72 gap).den : Int) := by have := (Rat.divInt 72 gap).den_pos; omega
  exact (Rat.divInt_eq_divInt_iff (by omega) (by omega)).1 h
theorem fl_rd {gap : Int} (hg : 150 ≤ gap ∧ gap ≤ 650) : (0 ≤ (flB gap).r.num ∧ (flB gap).r.num ≤ 72) ∧ (1 ≤ (flB gap).r.den ∧ (flB gap).r.den ≤ 650) := by
  have h := gd_bd (by omega) (gap_gd hg)
  rw [fl_r hg]
  have h1 := Rat.num_nonneg.2 (fl_h hg).2.2
  have h2 := (Rat.divInt 72 gap).den_pos
  obtain ⟨a, b⟩ := h
  omega
theorem fl_rho {gap : Int} (hg : 150 ≤ gap ∧ gap ≤ 650) : (rho (flB gap)).num = 1 ∧ ((rho (flB gap)).den : Int) = (flB gap).r.den := by
  have h := (fl_rd hg).2
  have e : rho (flB gap) = Rat.divInt 1 (flB gap).r.den := by unfold rho; rw [fl_b hg]; rfl
  generalize (flB gap).r.den = d at *
  have e2 : (⟨1, d, by omega, by simp [Nat.Coprime]⟩ : Rat) = Rat.divInt 1 (d : Int) := Rat.mk_eq_divInt
  rw [e, ← e2]
  exact ⟨rfl, rfl⟩
theorem fl_harm {gap : Int} (hg : 150 ≤ gap ∧ gap ≤ 650) : 10000000 ≤ harmL 1073741824 [flB gap] := by
  obtain ⟨⟨r0, r1⟩, d0, d1⟩ := fl_rd hg
  obtain ⟨e1, e2⟩ := fl_rho hg
  have hb : (flB gap).b.num = 72 ∧ ((flB gap).b.den : Int) = 1 := by rw [fl_b hg]; exact ⟨rfl, rfl⟩
  unfold harmL harmL
  rw [e1, e2, hb.1, hb.2]
  rw [if_neg (by omega)]
  split
  · rename_i hp
    have h1 : 10000000 ≤ (1073741824 - 72 * ((flB gap).r.den : Int)).tdiv ((flB gap).r.num * 1) := by
      rw [Int.tdiv_eq_ediv_of_nonneg (by omega), Int.mul_one, Int.le_ediv_iff_mul_le (by omega)]
      have : 10000000 * (flB gap).r.num ≤ 10000000 * 72 := by omega
      omega
    omega
  · omega
section
variable {ss ws : List Int} (hs : ∀ z ∈ ss, 0 ≤ z ∧ z ≤ 255) (hw : ∀ z ∈ ws, 0 ≤ z ∧ z ≤ 255) {vl gap : Int} (hv : 0 ≤ vl ∧ vl ≤ 1) (hg : 150 ≤ gap ∧ gap ≤ 650) {n : Nat} (hn : n ≤ 12)
include hs hw hg hn
theorem flow_frOk : frOk 0 (flowL ss ws vl gap n) = true := by
  have := flow_ok (ss := ss) hs hw (vl := vl) (gap := gap) (by omega) (by omega) n 0 0 (by simp [flowT]) (by omega)
  rw [← List.range_eq_range'] at this
  exact this
theorem flow_time : ∀ x ∈ flowL ss ws vl gap n, 0 ≤ x.t ∧ x.t ≤ 800000 := fun x hx => by
  have h := (flow_mem hs hw (vl := vl) (gap := gap) (by omega) (n := n) x hx).2.1
  unfold flowL at hx
  obtain ⟨k, hk, rfl⟩ := List.mem_map.1 hx
  have h1 := flowT_bd hw (gap := gap) (by omega) (by omega) k
  have h2 := getD_u hw k
  have h3 : k < 12 := by have := List.mem_range.1 hk; omega
  refine ⟨h, ?_⟩
  show flowT ws gap k + ws.getD k 0 ≤ 800000
  omega
include hv in
theorem flow_bd : ∀ x ∈ flowL ss ws vl gap n, x.bd64 := fun x hx => by
  have h1 := flow_time hs hw (vl := vl) hg hn x hx
  have h2 := flow_mem hs hw (vl := vl) (gap := gap) (by omega) (n := n) x hx
  constructor
  · show -9223372036854775808 ≤ x.t ∧ x.t ≤ 9223372036854775807; omega
  · show -9223372036854775808 ≤ x.v ∧ x.v ≤ 9223372036854775807; omega
  · show -9223372036854775808 ≤ x.s ∧ x.s ≤ 9223372036854775807; omega
include hv in
theorem conf_flow (A B : Option Addr) (ca cb : Nat) (W : World) (hC : isC A ca [flB gap] W) (hS : isS B (flowL ss ws vl gap n) W) :
    Calls Tryz.prog 34 #[.slice A 1 ca, .slice B n cb] W fun e w' => e = .returned (.tuple #[.bool true, .int .i64 0]) ∧ Below W.heap.size W w' := by
  have hlen := flow_len ss ws vl gap n
  have hng : NoGap (flowL ss ws vl gap n) (harmL 1073741824 [flB gap]) := fun k x y hx hy => by
    have h1 := flow_time hs hw (vl := vl) hg hn x (List.mem_of_getElem? hx)
    have h2 := flow_time hs hw (vl := vl) hg hn y (List.mem_of_getElem? hy)
    have := fl_harm hg
    omega
  have h := callsIn_wide.1 (conf_ok A B ca cb [flB gap] (by simp) (by simp) (flowL ss ws vl gap n) (flow_bd hs hw hv hg hn) (by omega) (flow_frOk hs hw hg hn) hng W hC hS)
  have hh : holdsB (flB gap) (flowL ss ws vl gap n) = true := by
    have hb : (flB gap).b.num = 72 ∧ ((flB gap).b.den : Int) = 1 := by rw [fl_b hg]; exact ⟨rfl, rfl⟩
    obtain ⟨⟨r0, r1⟩, d0, d1⟩ := fl_rd hg
    unfold holdsB
    rw [hb.1, hb.2, Int.tdiv_one]
    exact holds_gap (gap := gap) r0 (by omega) rfl (fl_nd hg) _ 0 0 (by omega) (fun x _ => .inr (Int.le_refl _)) (flow_gap hw (by omega) n) fun x hx => by
      have := flow_mem hs hw (vl := vl) (gap := gap) (by omega) (n := n) x hx
      exact this.2
  have ha : (!([flB gap].any fun x => !holdsB x (flowL ss ws vl gap n))) = true := by
    rw [List.any_cons, hh]
    rfl
  rw [ha, hlen] at h
  exact h
end
end Go.Proofs.YtbncfknjgldcbaaGreat.Mx
/- Delay and Backlog of two flows' curves, for CalculusDelays. -/
namespace Go.Proofs.YtbncfknjgldcbaaGreat.Mx
open Go.RowKit Go.Joins Go.Shelf Go.Sort Num BrkLaw

section
variable {gap hap : Int} (hg : 150 ≤ gap ∧ gap ≤ 650) (hh : 150 ≤ hap ∧ hap ≤ 650) {k : Int} (hk : 1 ≤ k ∧ k ≤ 2) {L : Int} (hL : 0 ≤ L ∧ L ≤ 255)
theorem tick_nil : ∀ {z : Int}, z ∈ ticksL [] → z = 0 := fun {z} hz => by
  rcases (ticks_mem _ _).1 hz with rfl | ⟨p, hp, _⟩
  · rfl
  · cases hp
theorem tick_L (hf : Fit (L : Rat)) : ∀ {z : Int}, z ∈ ticksL ([] ++ [(⟨(L : Rat), hf⟩ : Pt)]) → z = 0 ∨ z = L := fun {z} hz => by
  rcases (ticks_mem _ _).1 hz with rfl | ⟨p, hp, rfl | rfl⟩
  · exact .inl rfl
  · rw [List.mem_singleton.1 hp, fl_p]
    exact .inr (Rat.floor_intCast L)
  · rw [List.mem_singleton.1 hp, ce_p]
    refine .inr ?_
    show -(-(L : Rat)).floor = L
    rw [← Rat.intCast_neg, Rat.floor_intCast]
    omega
include hg hh hk hL
theorem delay_two : if gap * hap < k * (72 * (gap + hap)) then delayV [[flB gap], [flB hap]] (Rat.divInt 1 k) (L : Rat) = (0, 0, 6) else
    delayV [[flB gap], [flB hap]] (Rat.divInt 1 k) (L : Rat) = (144 * k + L, 1, 0) := by
  have hs := slow_iff hg hh hk
  unfold delayV
  rw [two_prep hg hh]
  by_cases c : gap * hap < k * (72 * (gap + hap))
  · rw [if_pos c, if_pos (hs.2 c)]
    rfl
  · rw [if_neg c, if_neg (fun h => c (hs.1 h)), if_pos rfl, two_pts]
    have e0 : ((144 + (Rat.divInt 72 gap + Rat.divInt 72 hap) * ((0 : Int) : Rat)) : Rat) = ((144 : Int) : Rat) := by
      have h1 : ((0 : Int) : Rat) = 0 := rfl
      have h2 : ((144 : Int) : Rat) = 144 := rfl
      rw [h1, h2]; grind
    have ed : ((144 : Int) : Rat) / Rat.divInt 1 k = ((144 * k : Int) : Rat) := by
      rcases (show k = 1 ∨ k = 2 by omega) with rfl | rfl <;> decide +kernel
    have val : delayO [[flB gap], [flB hap]] (Rat.divInt 1 k) (L : Rat) ((0 : Int) : Rat) = some ((144 * k + L : Int) : Rat) := by
      unfold delayO
      rw [(two_tot hg hh (z := 0) (by decide)).1, e0]
      have f1 : Fit (((144 : Int) : Rat) / Rat.divInt 1 k) := by rw [ed]; exact int_fit (by omega)
      have e2 : ((144 * k : Int) : Rat) - ((0 : Int) : Rat) = ((144 * k : Int) : Rat) := by have h1 : ((0 : Int) : Rat) = 0 := rfl; rw [h1]; grind
      have e3 : ((144 * k : Int) : Rat) + (L : Rat) = ((144 * k + L : Int) : Rat) := (Rat.intCast_add _ _).symm
      rw [opO_yes (f := fun x => x / Rat.divInt 1 k) f1, ed, opO_yes (f := fun x => x - ((0 : Int) : Rat)) (by rw [e2]; exact int_fit (by omega)), e2, opO_yes (f := fun x => x + (L : Rat)) (by rw [e3]; exact int_fit (by omega)), e3]
    obtain ⟨m, hm⟩ := great_is (f := fun z : Int => delayO [[flB gap], [flB hap]] (Rat.divInt 1 k) (L : Rat) z) (zs := ticksL []) fun z hz => by rw [tick_nil hz]; exact ⟨_, val⟩
    obtain ⟨k1, k2, k3⟩ := great_some hm
    obtain ⟨v, hv, hvm⟩ := k1 0 ((ticks_mem _ _).2 (.inl rfl))
    have hv' : v = ((144 * k + L : Int) : Rat) := Option.some.inj (hv.symm.trans val)
    have hme : m = ((144 * k + L : Int) : Rat) := by
      rcases k3 with k3 | ⟨z, hz, k3⟩
      · have h1 : (0 : Rat) ≤ ((144 * k + L : Int) : Rat) := Rat.intCast_le_intCast.2 (show (0 : Int) ≤ 144 * k + L by omega)
        rw [hv'] at hvm
        exact Rat.le_antisymm (by rw [k3]; exact h1) hvm
      · rw [tick_nil hz] at k3
        exact Option.some.inj (k3.symm.trans val)
    rw [hm, hme]
    rfl
theorem back_two (hf : Fit (L : Rat)) : if gap * hap < k * (72 * (gap + hap)) then backV [[flB gap], [flB hap]] (Rat.divInt 1 k) (L : Rat) hf = (0, 0, 6) else
    ∃ m, backV [[flB gap], [flB hap]] (Rat.divInt 1 k) (L : Rat) hf = (m.num, (m.den : Int), 0) ∧ (Fit m ∧ Fit (m + 72)) ∧ 144 + (Rat.divInt 72 gap + Rat.divInt 72 hap) * L ≤ m := by
  have hs := slow_iff hg hh hk
  have hb := gh_bd hg hh
  unfold backV
  rw [two_prep hg hh]
  by_cases c : gap * hap < k * (72 * (gap + hap))
  · rw [if_pos c, if_pos (hs.2 c)]
    rfl
  · rw [if_neg c, if_neg (fun h => c (hs.1 h)), if_pos rfl, two_pts]
    have val : ∀ z : Int, z = 0 ∨ z = L → backO [[flB gap], [flB hap]] (Rat.divInt 1 k) (L : Rat) z = some (144 + (Rat.divInt 72 gap + Rat.divInt 72 hap) * z) ∧ Gd (gap.toNat * hap.toNat) 100000000 (144 + (Rat.divInt 72 gap + Rat.divInt 72 hap) * z) := fun z hz => by
      obtain ⟨t1, t2⟩ := two_tot hg hh (z := z) (by omega)
      refine ⟨?_, t2⟩
      unfold backO
      rw [t1]
      dsimp only
      rw [if_pos (Rat.intCast_le_intCast.2 (show z ≤ L by omega))]
    obtain ⟨m, hm⟩ := great_is (f := fun z : Int => backO [[flB gap], [flB hap]] (Rat.divInt 1 k) (L : Rat) z) (zs := ticksL ([] ++ [(⟨(L : Rat), hf⟩ : Pt)])) fun z hz => ⟨_, (val z (tick_L hf hz)).1⟩
    obtain ⟨k1, k2, k3⟩ := great_some hm
    obtain ⟨v, hv, hvm⟩ := k1 L ((ticks_mem _ _).2 (.inr ⟨⟨(L : Rat), hf⟩, by simp, .inl (by rw [fl_p]; exact (Rat.floor_intCast L).symm)⟩))
    rw [Option.some.inj (hv.symm.trans (val L (.inr rfl)).1)] at hvm
    have hgm : Gd (gap.toNat * hap.toNat) 100000000 m := by
      rcases k3 with k3 | ⟨z, hz, k3⟩
      · rw [k3]; exact ⟨0, by omega, by simp⟩
      · have := (val z (tick_L hf hz)).2
        rw [← Option.some.inj (k3.symm.trans (val z (tick_L hf hz)).1)] at this
        exact this
    refine ⟨m, by rw [hm]; rfl, ⟨gd_fit hgm hb.1 (by omega) (by decide), ?_⟩, hvm⟩
    have h72 := gd_up (K := 72) (gap.toNat * hap.toNat) hb.1 (gd_int (Z := 72) (z := 72) (by decide))
    exact gd_fit (gd_add hgm h72) hb.1 (by omega) (by omega)
end
end Go.Proofs.YtbncfknjgldcbaaGreat.Mx
/- What CalculusDelays' walk calls. -/
namespace Go.Proofs.YtbncfknjgldcbaaGreat.DlLaw
open Go.RowKit Go.Joins Go.Shelf Go.Sort Num Mx

theorem _root_.Go.Proofs.YtbncfknjgldcbaaGreat.Kept.anew {w W : World} {l : List (World → Prop)} (k : Kept w l W) : Kept W l W := ⟨Below.refl _ _, k.h⟩
theorem own_cap {base n size : Nat} {e : TypeId} {W : World} {v : Value} {xs : List Value} {A : Option Addr} {cap : Nat} (h : W.ownsRow base e size v n xs) (hv : v = .slice A n cap) : n ≤ cap := by
  rcases h.2 with ⟨e1, h0⟩ | ⟨g', cap', cur, e1, _, _, hnc, _⟩
  · omega
  · rw [hv] at e1
    simp only [Value.slice.injEq] at e1
    omega
theorem frOk_of : ∀ (l : List Sn) (last : Int), (∀ x ∈ l, last ≤ x.t) → l.Pairwise (fun x y => x.t ≤ y.t) → (∀ x ∈ l, x.t ≤ 1073741824 ∧ (1 ≤ x.s ∧ x.s ≤ 72)) → frOk last l = true
  | [], _, _, _, _ => rfl
  | f :: l, last, h1, h2, h3 => by
    rw [List.pairwise_cons] at h2
    have a := h1 f (by simp)
    have b := h3 f (by simp)
    unfold frOk Sn.ok
    rw [frOk_of l f.t h2.1 h2.2 (fun x hx => h3 x (List.mem_cons_of_mem _ hx)), decide_eq_true a, decide_eq_true b.1, decide_eq_true b.2.1, decide_eq_true b.2.2]
    rfl
theorem serve_w (L : List Sn) (n : Nat) (hn : L.length = n) (hn2 : n ≤ 24) (ho : L.Pairwise (fun x y => x.t ≤ y.t)) (h3 : ∀ x ∈ L, (0 ≤ x.t ∧ x.t ≤ 800000) ∧ (1 ≤ x.s ∧ x.s ≤ 72) ∧ (0 ≤ x.v ∧ x.v ≤ 1)) (k d : Int) (hk : 1 ≤ k ∧ k ≤ 2) (hd : 0 ≤ d ∧ d ≤ 255) (A1 : Option Addr) (cap1 : Nat) (W : World) (hi : isS A1 L W) :
    Calls Tryz.prog 36 #[.slice A1 n cap1, .int .i64 k, .int .i64 d] W fun e w' => ∃ A2 cap2, e = .returned (.tuple #[.slice A2 n cap2, .int .i64 0]) ∧ isN A2 (serveL k d 0 L) w' ∧ Below W.heap.size W w' := by
  have hok : frOk 0 L = true := frOk_of L 0 (fun x hx => (h3 x hx).1.1) ho (fun x hx => ⟨by have := (h3 x hx).1.2; omega, (h3 x hx).2.1⟩)
  have hbd : ∀ x ∈ L, x.bd64 := fun x hx => by
    obtain ⟨a, b, c⟩ := h3 x hx
    constructor
    · show -9223372036854775808 ≤ x.t ∧ x.t ≤ 9223372036854775807; omega
    · show -9223372036854775808 ≤ x.v ∧ x.v ≤ 9223372036854775807; omega
    · show -9223372036854775808 ≤ x.s ∧ x.s ≤ 9223372036854775807; omega
  have := serve_any A1 cap1 L (fun _ => hbd) k d (by constructor <;> omega) (by constructor <;> omega) W hi
  rw [hn] at this
  refine this.mono fun e w' ⟨p, _, q⟩ => ?_
  obtain ⟨A2, c2, e1, e2⟩ := p ⟨frB_ok (by omega) hok, by omega, by omega⟩
  rw [hn] at e1
  exact ⟨A2, c2, e1, e2, q⟩
theorem rate_nd {k : Int} (hk : 1 ≤ k ∧ k ≤ 2) : ((Rat.divInt 1 k).num = 1 ∧ ((Rat.divInt 1 k).den : Int) = k) ∧ (Fit (Rat.divInt 1 k) ∧ 0 < Rat.divInt 1 k) := by
  rcases (show k = 1 ∨ k = 2 by omega) with rfl | rfl
  · exact ⟨⟨by decide +kernel, by decide +kernel⟩, ⟨by decide +kernel, by decide +kernel⟩, by decide +kernel⟩
  · exact ⟨⟨by decide +kernel, by decide +kernel⟩, ⟨by decide +kernel, by decide +kernel⟩, by decide +kernel⟩
theorem MoLaw_wrap {z : Int} (h : -1073741824 ≤ z ∧ z ≤ 1073741824) : IntKind.i64.wrap z = z := by
  unfold IntKind.wrap
  simp [IntKind.signed, IntKind.bits]
  omega
theorem held_bd {k d T : Int} {l : List Sn} (h : ∀ x ∈ l, 1 ≤ x.s ∧ x.s ≤ 72) : ∀ z : Nat, 0 ≤ heldL k d T l z ∧ heldL k d T l z ≤ 72 * z
  | 0 => by simp [heldL]
  | z + 1 => by
    have ih := held_bd (k := k) (d := d) (T := T) h z
    unfold heldL
    have hb : 0 ≤ (l[z]?.map Sn.s).getD 0 ∧ (l[z]?.map Sn.s).getD 0 ≤ 72 := by
      cases e : l[z]? with
      | none => simp
      | some x =>
        have := h x (List.mem_of_getElem? e)
        show 0 ≤ x.s ∧ x.s ≤ 72
        omega
    split <;> omega
theorem infoC : (Tryz.prog.info? 23).map (fun i => (i.zero, i.size, i.bytes)) = some (some (.slice none 0 0), 1, 24) := by kernel_rfl
/-- The cells of a flow's bucket. -/
theorem fl_cells {gap : Int} (hg : 150 ≤ gap ∧ gap ≤ 650) : cellsOf [flB gap] = [.int .i64 72, .int .i64 1, .int .i64 (Rat.divInt 72 gap).num, .int .i64 (Rat.divInt 72 gap).den] := by
  show [Value.int .i64 (flB gap).b.num, .int .i64 (flB gap).b.den, .int .i64 (flB gap).r.num, .int .i64 (flB gap).r.den] = _
  rw [fl_b hg, fl_r hg]
  rfl
theorem box_isC {gap : Int} (hg : 150 ≤ gap ∧ gap ≤ 650) {W : World} {g : Nat} (h : BoxN W g 80 #[.int .i64 72, .int .i64 1, .int .i64 (Rat.divInt 72 gap).num, .int .i64 (Rat.divInt 72 gap).den]) : isC (some ⟨g, 0, none⟩) 1 [flB gap] W := by
  refine ⟨_, _, rfl, fun _ => ⟨g, 0, rfl, h.lt, row_of_cells fun j u hu => ?_⟩⟩
  rw [Nat.zero_add, h.cell j, ← hu, fl_cells hg]
  match j with
  | 0 | 1 | 2 | 3 => rfl
  | j + 4 => rfl
theorem own_kept {w w' : World} {base : Nat} {e : TypeId} {size n : Nat} {v : Value} {xs : List Value} (h : w.ownsRow base e size v n xs) (hb : Below w.heap.size w w') : w'.ownsRow base e size v n xs := by
  obtain ⟨h1, h2⟩ := h
  refine ⟨h1, ?_⟩
  rcases h2 with h2 | ⟨g, cap, cur, e1, e2, e3, e4⟩
  · exact .inl h2
  · exact .inr ⟨g, cap, cur, e1, e2, (hb.block g (Array.getElem?_eq_some_iff.1 e3).1).trans e3, e4⟩
theorem own_form {w : World} {base : Nat} {e : TypeId} {size n : Nat} {v : Value} {xs : List Value} (h : w.ownsRow base e size v (n + 1) xs) : ∃ G c, v = .slice (some ⟨G, 0, none⟩) (n + 1) c ∧ base ≤ G ∧ G < w.heap.size := by
  rcases h.2 with ⟨_, h0⟩ | ⟨g, cap, cur, rfl, e2, e3, _⟩
  · omega
  · exact ⟨g, cap, rfl, e2, (Array.getElem?_eq_some_iff.1 e3).1⟩
theorem isL_own {W : World} {base G c ga gb : Nat} {x y : List Buck} (h : W.ownsRow base 23 1 (.slice (some ⟨G, 0, none⟩) 2 c) 2 [.slice (some ⟨ga, 0, none⟩) 1 1, .slice (some ⟨gb, 0, none⟩) 1 1]) (hG : G < W.heap.size) (ha : isC (some ⟨ga, 0, none⟩) 1 x W) (hb : isC (some ⟨gb, 0, none⟩) 1 y W) (hx : x.length = 1) (hy : y.length = 1) :
    isL (some ⟨G, 0, none⟩) [x, y] W := by
  refine ⟨fun z hz => ?_, [.slice (some ⟨ga, 0, none⟩) 1 1, .slice (some ⟨gb, 0, none⟩) 1 1], rfl, fun _ => ⟨G, 0, rfl, hG, fun j v hv => ?_⟩, fun j v z hv hz => ?_⟩
  · simp only [List.mem_cons, List.not_mem_nil, or_false] at hz
    rcases hz with rfl | rfl <;> omega
  · have hj : j < 2 := (List.getElem?_eq_some_iff.1 hv).1
    rw [Nat.zero_add, h.cellAt j (by omega)]
    exact hv
  · match j with
    | 0 => simp only [List.getElem?_cons_zero, Option.some.injEq] at hv hz; subst hv hz; exact ⟨_, 1, by rw [hx], ha⟩
    | 1 => simp only [List.getElem?_cons_succ, List.getElem?_cons_zero, Option.some.injEq] at hv hz; subst hv hz; exact ⟨_, 1, by rw [hy], hb⟩
    | j + 2 => simp at hv
end Go.Proofs.YtbncfknjgldcbaaGreat.DlLaw
/- What waits is within the bound of the backlog and a frame, as numbers. -/
namespace Go.Proofs.YtbncfknjgldcbaaGreat.DlLaw
open Go.RowKit Go.Joins Go.Shelf Go.Sort Num Mx

theorem store_le {gap hap : Int} (hg : 150 ≤ gap ∧ gap ≤ 650) (hh : 150 ≤ hap ∧ hap ≤ 650) {H d : Int} (h : H * (gap * hap) ≤ 216 * (gap * hap) + d * (72 * (gap + hap))) {m : Rat} (hm : 144 + (Rat.divInt 72 gap + Rat.divInt 72 hap) * d ≤ m) : (H : Rat) ≤ m + 72 := by
  rw [two_rate hg hh] at hm
  have hG : 0 < gap * hap := Int.mul_pos (by omega) (by omega)
  generalize gap * hap = G at *
  generalize 72 * (gap + hap) = S at *
  have hG' : (0 : Rat) < (G : Rat) := Rat.intCast_lt_intCast.2 hG
  have e : Rat.divInt S G * G = S := by rw [Rat.divInt_eq_div]; exact Rat.div_mul_cancel (fun e => by rw [e] at hG'; exact Rat.lt_irrefl hG')
  have h1 : ((H * G : Int) : Rat) ≤ ((216 * G + d * S : Int) : Rat) := Rat.intCast_le_intCast.2 h
  rw [Rat.intCast_mul, Rat.intCast_add, Rat.intCast_mul, Rat.intCast_mul] at h1
  have h216 : ((216 : Int) : Rat) = 216 := rfl
  rw [h216] at h1
  refine Rat.le_trans (b := 216 + Rat.divInt S G * d) ?_ (by grind)
  refine Rat.not_lt.1 fun hlt => ?_
  have h2 := Rat.mul_lt_mul_of_pos_right hlt hG'
  have h3 : (216 + Rat.divInt S G * (d : Rat)) * G = 216 * G + d * S := by rw [← e]; grind
  rw [h3] at h2
  exact Rat.not_lt.2 h1 h2
/-- The loop's answer for one frame. -/
theorem held_ok {gap hap k d : Int} (hg : 150 ≤ gap ∧ gap ≤ 650) (hh : 150 ≤ hap ∧ hap ≤ 650) (hk : 1 ≤ k) (hd : 0 ≤ d) (hc : k * (72 * (gap + hap)) ≤ gap * hap) {L : List Sn} (two : Mx.Two gap hap L) {x : Nat} {f : Sn} (hf : L[x]? = some f) {m : Rat} (hm : 144 + (Rat.divInt 72 gap + Rat.divInt 72 hap) * d ≤ m) (hm0 : 0 ≤ m) :
    ((heldL k d f.t L (x + 1) : Int) : Rat) ≤ m + 72 := by
  have hx := (List.getElem?_eq_some_iff.1 hf).1
  rcases held_le (k := k) (d := d) (T := f.t) (fun y hy => (two.s y hy).1) (x + 1) (by omega) with h0 | ⟨y, u, hy, hu, hend, hle⟩
  · rw [h0]
    have : ((0 : Int) : Rat) = 0 := rfl
    rw [this]
    grind
  · have h1 := in_store (gap := gap) (hap := hap) (by omega) (by omega) hk hd hc two hf (show y ≤ x by omega) hu hend
    have hG : 0 ≤ gap * hap := Int.mul_nonneg (by omega) (by omega)
    exact store_le hg hh (Int.le_trans (Int.mul_le_mul_of_nonneg_right hle hG) h1) hm
end Go.Proofs.YtbncfknjgldcbaaGreat.DlLaw
