/- Merged texts: CSvLaw. -/
import Derived.Test.YtbncfknjgldcbaaGreatM33
import Derived.Test.YtbncfknjgldcbaaGreatM31
/- CalculusServes returns true. -/
namespace Go.Proofs.YtbncfknjgldcbaaGreat.SvLaw
open Go.RowKit Go.Joins Go.Shelf Go.Sort Num

set_option maxRecDepth 100000 in
set_option maxHeartbeats 4000000 in
theorem walk (A B : Option Addr) (ca cb : Nat) (c : List Bk) (l : List Sn) (slow delay : Int) (hs : I64 slow) (hd : I64 delay) (hbd : ∀ x ∈ c, x.bd64) (hbl : ∀ x ∈ l, x.bd64) (w : World) (hC : SlR w.heap.size w (.slice A c.length ca) c) (hS : isS B l w) :
    Calls Tryz.prog 5 #[.slice A c.length ca, .slice B l.length cb, .int .i64 slow, .int .i64 delay] w fun e w' => e = .returned (.bool true) ∧ Below w.heap.size w w' := by
  have HW : Hid (∀ W : World, _) := fun W => Aw3.walk W
  by_cases h1 : 40 < c.length
  · have z1 : decide ((40 : Int) < c.length) = true := decide_eq_true (by omega)
    go_enter Tryz.func5, Tryz.ntmps5
    go_wp2_with fail
    (with_reducible refine (HW.out _).mono ?_); rintro _ V ⟨rfl, hb⟩
    have hB := Lib.hid hb
    clear hb
    go_wp2
    go_ret
    exact ⟨rfl, hB.out⟩
  have z1 : decide ((40 : Int) < c.length) = false := decide_eq_false (by omega)
  by_cases h2 : 60 < l.length
  · have z2 : decide ((60 : Int) < l.length) = true := decide_eq_true (by omega)
    by_cases h3 : l.length ≤ 4000
    · have z3 : decide ((l.length : Int) ≤ 4000) = true := decide_eq_true (by omega)
      go_enter Tryz.func5, Tryz.ntmps5
      go_wp2_with fail
      (with_reducible refine (HW.out _).mono ?_); rintro _ V ⟨rfl, hb⟩
      have hB := Lib.hid hb
      clear hb
      go_wp2
      go_ret
      exact ⟨rfl, hB.out⟩
    have z3 : decide ((l.length : Int) ≤ 4000) = false := decide_eq_false (by omega)
    obtain ⟨r, x, HC1, HC2⟩ := conf_pair A B ca cb c (by omega) hbd l hbl (by omega) w hC hS
    obtain ⟨z, zs, hzl, hzb, HS1, HS2⟩ := serve_pair B cb l hbl slow delay hs hd w hS
    have HI : Hid (∀ (A1 B1 : Option Addr) (c1 c2 : Nat) (W : World), isN A1 zs W → isN B1 zs W → _) := fun A1 B1 c1 c2 W h1 h2 => ints_any A1 B1 c1 c2 zs zs hzl hzl hzb hzb W h1 h2
    have hdz : decide (zs = zs) = true := decide_eq_true rfl
    replace HC1 := Lib.hid HC1
    replace HC2 := Lib.hid HC2
    replace HS1 := Lib.hid HS1
    replace HS2 := Lib.hid HS2
    clear hC hS hbd hbl hs hd hzb
    go_enter Tryz.func5, Tryz.ntmps5
    go_wp2_with fail
    (with_reducible refine (HC1.out _ (Below.refl _ _)).mono ?_); rintro _ W1 ⟨rfl, b1⟩
    go_wp2_with fail
    (with_reducible refine (HC2.out _ b1).mono ?_); rintro _ W2 ⟨rfl, b2⟩
    have B2 := b1.trans (b2.mono b1.size)
    clear b1 b2
    go_wp2_with fail
    (with_reducible refine (HS1.out _ B2).mono ?_); rintro _ W3 ⟨G1, c1, rfl, n1, b3⟩
    have B3 := B2.trans (b3.mono B2.size)
    clear b3 B2
    go_wp2_with fail
    (with_reducible refine (HS2.out _ B3).mono ?_); rintro _ W4 ⟨G2, c2, rfl, n2, b4⟩
    have B4 := B3.trans (b4.mono B3.size)
    have n3 := cl_isN _ _ _ _ n1 b4
    clear b4 B3 n1
    have HIx := HI.out G1 G2 c1 c2 W4 n3 n2
    rw [hdz] at HIx
    replace HIx := Lib.hid HIx
    clear hdz n2 n3
    go_wp2_with fail
    (with_reducible refine HIx.out.mono ?_); rintro _ W5 ⟨rfl, b5⟩
    have B5 := B4.trans (b5.mono B4.size)
    clear b5 B4
    go_wp2_with fail
    (with_reducible refine (HW.out _).mono ?_); rintro _ W6 ⟨rfl, b6⟩
    have B6 := Lib.hid (B5.trans (b6.mono B5.size))
    clear b6 B5
    go_wp2
    go_ret
    exact ⟨rfl, B6.out⟩
  · have z2 : decide ((60 : Int) < l.length) = false := decide_eq_false (by omega)
    obtain ⟨r, x, HC1, HC2⟩ := conf_pair A B ca cb c (by omega) hbd l hbl (by omega) w hC hS
    obtain ⟨z, zs, hzl, hzb, HS1, HS2⟩ := serve_pair B cb l hbl slow delay hs hd w hS
    have HI : Hid (∀ (A1 B1 : Option Addr) (c1 c2 : Nat) (W : World), isN A1 zs W → isN B1 zs W → _) := fun A1 B1 c1 c2 W h1 h2 => ints_any A1 B1 c1 c2 zs zs hzl hzl hzb hzb W h1 h2
    have hdz : decide (zs = zs) = true := decide_eq_true rfl
    replace HC1 := Lib.hid HC1
    replace HC2 := Lib.hid HC2
    replace HS1 := Lib.hid HS1
    replace HS2 := Lib.hid HS2
    clear hC hS hbd hbl hs hd hzb
    go_enter Tryz.func5, Tryz.ntmps5
    go_wp2_with fail
    (with_reducible refine (HC1.out _ (Below.refl _ _)).mono ?_); rintro _ W1 ⟨rfl, b1⟩
    go_wp2_with fail
    (with_reducible refine (HC2.out _ b1).mono ?_); rintro _ W2 ⟨rfl, b2⟩
    have B2 := b1.trans (b2.mono b1.size)
    clear b1 b2
    go_wp2_with fail
    (with_reducible refine (HS1.out _ B2).mono ?_); rintro _ W3 ⟨G1, c1, rfl, n1, b3⟩
    have B3 := B2.trans (b3.mono B2.size)
    clear b3 B2
    go_wp2_with fail
    (with_reducible refine (HS2.out _ B3).mono ?_); rintro _ W4 ⟨G2, c2, rfl, n2, b4⟩
    have B4 := B3.trans (b4.mono B3.size)
    have n3 := cl_isN _ _ _ _ n1 b4
    clear b4 B3 n1
    have HIx := HI.out G1 G2 c1 c2 W4 n3 n2
    rw [hdz] at HIx
    replace HIx := Lib.hid HIx
    clear hdz n2 n3
    go_wp2_with fail
    (with_reducible refine HIx.out.mono ?_); rintro _ W5 ⟨rfl, b5⟩
    have B5 := B4.trans (b5.mono B4.size)
    clear b5 B4
    go_wp2_with fail
    (with_reducible refine (HW.out _).mono ?_); rintro _ W6 ⟨rfl, b6⟩
    have B6 := Lib.hid (B5.trans (b6.mono B5.size))
    clear b6 B5
    go_wp2
    go_ret
    exact ⟨rfl, B6.out⟩
end Go.Proofs.YtbncfknjgldcbaaGreat.SvLaw
