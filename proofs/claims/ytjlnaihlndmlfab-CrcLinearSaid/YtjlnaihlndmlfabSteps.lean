/- CrcSteps returns true. -/
import Derived.Test.YtjlnaihlndmlfabAwake
import Derived.Test.YtjlnaihlndmlfabFrame
namespace Go.Proofs.Ytjlnaihlndmlfab
open Go.RowKit Go.Joins

theorem up_inj (r s : BitVec 32) (l : List (BitVec 8)) : up r l = up s l ↔ r = s := by
  constructor
  · intro h
    rw [up_split l r, up_split l s] at h
    have := congrArg (· ^^^ up 0#32 l) h
    simp only [BitVec.xor_assoc, BitVec.xor_self, BitVec.xor_zero] at this
    exact it_inj.1 this
  · rintro rfl; rfl
theorem not_inj {x y : BitVec 32} : ~~~ x = ~~~ y ↔ x = y := by
  constructor
  · intro h
    have := congrArg (~~~ ·) h
    simpa using this
  · rintro rfl; rfl
theorem upd_inj (x y : BitVec 32) (l : List (BitVec 8)) : upd x l = upd y l ↔ x = y := by
  unfold upd; rw [not_inj, up_inj, not_inj]
theorem upd_one (x : BitVec 32) (a b : BitVec 8) : upd x [a] = upd x [b] ↔ a = b := by
  unfold upd
  rw [not_inj]
  show by8 (~~~ x) a = by8 (~~~ x) b ↔ _
  unfold by8
  rw [it_inj]
  constructor
  · intro h
    have h2 := congrArg (~~~ x ^^^ ·) h
    simp only [← BitVec.xor_assoc, BitVec.xor_self, BitVec.zero_xor] at h2
    have h3 := congrArg (BitVec.setWidth 8) h2
    simpa using h3
  · rintro rfl; rfl
theorem beq_bv {n : Nat} (x y : BitVec n) : ((x.toNat : Int) == (y.toNat : Int)) = decide (x = y) := by
  rw [Bool.eq_iff_iff, beq_iff_eq, decide_eq_true_iff, Int.natCast_inj, BitVec.toNat_inj]

namespace Steps
set_option maxRecDepth 100000 in
set_option maxHeartbeats 4000000 in
theorem walk (A : Option Addr) (cap : Nat) (l : List (BitVec 8)) (x y a b : Int) (w : World) (hd : Data w A cap l) (hx0 : 0 ≤ x) (hx1 : x ≤ 4294967295) (hy0 : 0 ≤ y) (hy1 : y ≤ 4294967295) (ha0 : 0 ≤ a) (ha1 : a ≤ 255) (hb0 : 0 ≤ b) (hb1 : b ≤ 255) :
    Calls Try.prog 8 #[.slice A l.length cap, .int .u32 x, .int .u32 y, .int .u8 a, .int .u8 b] w fun e w' => e = .returned (.bool true) ∧ Below w.heap.size w w' := by
  obtain ⟨x, rfl⟩ := int_bv (n := 32) hx0 (by omega)
  obtain ⟨y, rfl⟩ := int_bv (n := 32) hy0 (by omega)
  obtain ⟨a, rfl⟩ := int_bv (n := 8) ha0 (by omega)
  obtain ⟨b, rfl⟩ := int_bv (n := 8) hb0 (by omega)
  have hcap := hd.cap
  have hlc := hd.len
  have HW : Hid (∀ W : World, _) := fun W => Aw.walk W
  by_cases hn : l.length > 300
  · generalize l.length = n at hn hlc ⊢
    clear hd
    go_enter Try.func8, Try.ntmps8
    go_wp2_with fail
    (with_reducible refine (HW.out _).mono ?_); rintro e w1 ⟨rfl, hb⟩
    go_wp2_with fail
    go_ret
    exact ⟨rfl, hb⟩
  · have HX : Hid (∀ W : World, Below w.heap.size w W → _) := fun W hb => update_any A cap l (by omega) x W (hd.row.keep hb)
    have HY : Hid (∀ W : World, Below w.heap.size w W → _) := fun W hb => update_any A cap l (by omega) y W (hd.row.keep hb)
    have HA : Hid (∀ W : World, _) := fun W => update_any (some ⟨W.heap.size, 0, none⟩) 1 [a] (by simp) x _ (Aw.isB_lit W [a] #[U8 a] rfl)
    have HB : Hid (∀ W : World, _) := fun W => update_any (some ⟨W.heap.size, 0, none⟩) 1 [b] (by simp) x _ (Aw.isB_lit W [b] #[U8 b] rfl)
    have HN : Hid (∀ W : World, _) := fun W => update_any none 0 [] (by simp) x W (isB.nil _ _)
    rw [upd_nil] at HN
    have q1 : (((upd x l).toNat : Int) == ((upd y l).toNat : Int)) = decide (x = y) := by rw [beq_bv]; exact decide_eq_decide.2 (upd_inj x y l)
    have q2 := beq_bv x y
    have q3 : (((upd x [a]).toNat : Int) == ((upd x [b]).toNat : Int)) = decide (a = b) := by rw [beq_bv]; exact decide_eq_decide.2 (upd_one x a b)
    have q4 := beq_bv a b
    generalize decide (x = y) = d1 at q1 q2
    generalize decide (a = b) = d2 at q3 q4
    generalize upd x l = X at HX q1
    generalize upd y l = Y at HY q1
    generalize upd x [a] = P at HA q3
    generalize upd x [b] = Q at HB q3
    generalize l.length = n at hn hlc HX HY ⊢
    simp only [List.length_cons, List.length_nil, Nat.zero_add] at HA HB HN
    have R0 := Below.refl w.heap.size w
    clear hd
    go_enter Try.func8, Try.ntmps8
    go_wp2_with fail
    (with_reducible refine (HX.out _ R0).mono ?_); rintro e w1 ⟨rfl, hb⟩
    go_wp2_with fail
    (with_reducible refine (HY.out _ hb).mono ?_); rintro e w2 ⟨rfl, hb2⟩
    replace hb2 := hb.trans (hb2.mono hb.size)
    clear hb
    go_wp2_with fail
    (with_reducible refine (HA.out _).mono ?_); rintro e w3 ⟨rfl, hb⟩
    have hb3 := hb2.trans (((Below.refl _ w2).alloc (Nat.le_refl _) _ |>.trans (hb.mono (by simp))).mono hb2.size)
    clear hb hb2
    go_wp2_with fail
    (with_reducible refine (HB.out _).mono ?_); rintro e w4 ⟨rfl, hb⟩
    have hb4 := hb3.trans (((Below.refl _ w3).alloc (Nat.le_refl _) _ |>.trans (hb.mono (by simp))).mono hb3.size)
    clear hb hb3
    go_wp2_with fail
    (with_reducible refine (HN.out _).mono ?_); rintro e w5 ⟨rfl, hb⟩
    replace hb := hb4.trans (hb.mono hb4.size)
    clear hb4
    go_wp2_with fail
    (with_reducible refine (HW.out _).mono ?_); rintro e w6 ⟨rfl, hb6⟩
    replace hb6 := hb.trans (hb6.mono hb.size)
    clear hb
    go_wp2_with fail
    go_ret
    exact ⟨rfl, hb6⟩
end Steps
end Go.Proofs.Ytjlnaihlndmlfab
