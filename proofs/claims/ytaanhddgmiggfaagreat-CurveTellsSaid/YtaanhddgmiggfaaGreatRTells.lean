/- CurveTells: every function's answer is the reference's, for any two curves and any number; and the examples of the chapter hold. -/
import Derived.Test.YtaanhddgmiggfaaGreatRPair
import Derived.Test.YtaanhddgmiggfaaGreatAwake
namespace Go.Proofs.YtaanhddgmiggfaaGreat.Tells
open Go.RowKit Go.Joins Go.Shelf Go.Sort Num Ref

theorem _root_.Go.Proofs.YtaanhddgmiggfaaGreat.Kept.bx {w W : World} {l : List (World → Prop)} (k : Kept w l W) (n d : Int) : Kept w (isR W.heap.size n d :: l) (W.alloc (.cells #[.int .i64 n, .int .i64 d] 25)) :=
  (k.alloc _).add (cl_isR _ _ _) (Has.new _ _ _ _)
theorem _root_.Go.Proofs.YtaanhddgmiggfaaGreat.Kept.tl' {w W : World} {P : World → Prop} {l : List (World → Prop)} (k : Kept w (P :: l) W) : Kept w l W := ⟨k.b, fun Q hQ => k.h Q (List.mem_cons_of_mem _ hQ)⟩
theorem same_nil (A : Option Addr) (ca : Nat) (w : World) (hA : isC A ca [] w) :
    Calls Tryz.prog 20 #[.slice A 0 ca, .int .i64 2, .slice none 0 0, .int .i64 2] w fun r w' => r = .returned (.bool true) ∧ Below w.heap.size w w' :=
  same_law A none ca 0 [] 2 (by decide) w hA (isC_nil w)

set_option maxRecDepth 100000 in
set_option maxHeartbeats 8000000 in
theorem walk (A B : Option Addr) (ca cb : Nat) (a b : List Bk) (tn td : Int) (h1 : I64 tn) (h2 : I64 td) (w : World) (ha : a.length ≤ 40 → Raw w A ca a) (hb : b.length ≤ 40 → Raw w B cb b) :
    Calls Tryz.prog 3 #[.slice A a.length ca, .slice B b.length cb, .agg #[.int .i64 tn, .int .i64 td]] w fun e w' => e = .returned (.bool true) ∧ Below w.heap.size w w' := by
  have HW : Hid (∀ W : World, _) := fun W => Aw.walk W
  have K0 := (Kept.start w).bx tn td
  by_cases hla : 40 < a.length
  · have z1 : (40 : Int) < a.length := by omega
    go_enter Tryz.func3, Tryz.ntmps3
    go_wp2_with fail
    (with_reducible refine (HW.out _).mono ?_); rintro _ V ⟨rfl, hb⟩
    have hB := Lib.hid (K0.keep hb).b
    clear K0 hb
    go_wp2
    go_ret
    exact ⟨rfl, hB.out⟩
  by_cases hlb : 40 < b.length
  · have z1 : (40 : Int) < b.length := by omega
    have z0 : decide ((40 : Int) < a.length) = false := by simp; omega
    go_enter Tryz.func3, Tryz.ntmps3
    go_wp2_with fail
    (with_reducible refine (HW.out _).mono ?_); rintro _ V ⟨rfl, hb⟩
    have hB := Lib.hid (K0.keep hb).b
    clear K0 hb
    go_wp2
    go_ret
    exact ⟨rfl, hB.out⟩
  replace ha := ha (by omega)
  replace hb := hb (by omega)
  obtain ⟨⟨av, ad, ae⟩, hA1, hA2⟩ := at_pair ha tn td h1 h2
  obtain ⟨⟨rn, rd, re⟩, hR1, hR2⟩ := rate_pair ha
  obtain ⟨hV1, hV2⟩ := valid_pair ha
  obtain ⟨nc, ne, hnl, hN1, hN2, hN3⟩ := norm_pair ha
  obtain ⟨sc, se, hsl, hS1, hS2⟩ := sum_pair ha hb
  obtain ⟨mc, me, hml, hM1, hM2⟩ := min_pair ha hb
  obtain ⟨fc, fe, hfl, hF1, hF2⟩ := shift_pair ha tn td h1 h2
  obtain ⟨pc, pe, hpl, hP1, hP2⟩ := breaks_pair ha
  have ha40 : a.length ≤ 1048576 := ha.len
  have hb40 : b.length ≤ 1048576 := hb.len
  simp only [ratV] at hA1 hA2 hR1 hR2
  have hA1 := Lib.hid hA1
  have hA2 := Lib.hid hA2
  have hR1 := Lib.hid hR1
  have hR2 := Lib.hid hR2
  have hV1 := Lib.hid hV1
  have hV2 := Lib.hid hV2
  have hN1 := Lib.hid hN1
  have hN2 := Lib.hid hN2
  have hN3 := Lib.hid hN3
  have hS1 := Lib.hid hS1
  have hS2 := Lib.hid hS2
  have hM1 := Lib.hid hM1
  have hM2 := Lib.hid hM2
  have hF1 := Lib.hid hF1
  have hF2 := Lib.hid hF2
  have hP1 := Lib.hid hP1
  have hP2 := Lib.hid hP2
  have HSn : Hid (∀ (A B : Option Addr) (ca cb : Nat) (W : World), isC A ca nc W → isC B cb nc W → _) := fun A B ca cb W h k => same_law A B ca cb nc ne hnl W h k
  have HSs : Hid (∀ (A B : Option Addr) (ca cb : Nat) (W : World), isC A ca sc W → isC B cb sc W → _) := fun A B ca cb W h k => same_law A B ca cb sc se hsl W h k
  have HSm : Hid (∀ (A B : Option Addr) (ca cb : Nat) (W : World), isC A ca mc W → isC B cb mc W → _) := fun A B ca cb W h k => same_law A B ca cb mc me hml W h k
  have HSf : Hid (∀ (A B : Option Addr) (ca cb : Nat) (W : World), isC A ca fc W → isC B cb fc W → _) := fun A B ca cb W h k => same_law A B ca cb fc fe hfl W h k
  have HS0 : Hid (∀ (A : Option Addr) (ca : Nat) (W : World), isC A ca [] W → _) := fun A ca W h => same_nil A ca W h
  clear ha hb h1 h2 hnl hsl hml hfl
  obtain ⟨va, hva⟩ : ∃ va, valC a = va := ⟨_, rfl⟩
  rw [hva] at hV1 hV2 hN2 hN3
  clear hva
  have z0 : decide ((40 : Int) < a.length) = false := by simp; omega
  have z1 : decide ((40 : Int) < b.length) = false := by simp; omega
  go_enter Tryz.func3, Tryz.ntmps3
  have c0 := (K0.get 0 rfl).c0
  have c1 := (K0.get 0 rfl).c1
  go_wp2_with fail
  (with_reducible refine (hA1.out _ K0.b).mono ?_); rintro _ V1 ⟨rfl, hb⟩
  have K := (K0.keep hb).bx av ad
  clear c0 c1 hb K0 z0 z1 hla hlb
  have c0 := (K.get 1 rfl).c0
  have c1 := (K.get 1 rfl).c1
  go_wp2_with fail
  (with_reducible refine (hA2.out _ K.b).mono ?_); rintro _ V2 ⟨rfl, hb⟩
  replace K := (K.keep hb).bx av ad
  clear c0 c1 hb hA1 hA2
  go_wp2_with fail
  (with_reducible refine (hR1.out _ K.b).mono ?_); rintro _ V3 ⟨rfl, hb⟩
  replace K := (K.keep hb).bx rn rd
  clear hb
  go_wp2_with fail
  (with_reducible refine (hR2.out _ K.b).mono ?_); rintro _ V4 ⟨rfl, hb⟩
  replace K := (K.keep hb).bx rn rd
  clear hb hR1 hR2
  go_wp2_with fail
  (with_reducible refine (hV1.out _ K.b).mono ?_); rintro _ V5 ⟨rfl, hb⟩
  replace K := K.keep hb
  clear hb
  go_wp2_with fail
  (with_reducible refine (hV2.out _ K.b).mono ?_); rintro _ V6 ⟨rfl, hb⟩
  replace K := K.keep hb
  clear hb
  have d0 := (K.get 0 rfl).c0
  have d1 := (K.get 0 rfl).c1
  have d2 := (K.get 1 rfl).c0
  have d3 := (K.get 1 rfl).c1
  have e0 := (K.get 2 rfl).c0
  have e1 := (K.get 2 rfl).c1
  have e2 := (K.get 3 rfl).c0
  have e3 := (K.get 3 rfl).c1
  cases va
  case' false =>
    obtain ⟨rfl, rfl⟩ := hN2.out rfl
    have hN1' := hN1.out
    simp only [GivesC, List.length_nil] at hN1'
    replace hN1 := Lib.hid hN1'
    clear hN1'
    have KH := Lib.hid K
    clear K
    go_wp2_with fail
    (with_reducible refine (hV2.out _ KH.out.b).mono ?_); rintro _ V7 ⟨rfl, hb⟩
    have K := KH.out.keep hb
    clear d0 d1 d2 d3 e0 e1 e2 e3 hb KH
    go_wp2_with fail
    (with_reducible refine (hN1.out _ K.b).mono ?_); rintro _ V8 ⟨An, cn, rfl, hi, hb⟩
    replace K := K.keep hb
    have hS := HS0.out An cn _ hi
    clear hb hi
    go_wp2_with fail
    (with_reducible refine hS.mono ?_); rintro _ V9 ⟨rfl, hb⟩
    replace K := K.keep hb
    clear hb hS
  case' true =>
    obtain ⟨rfl, hN4⟩ := hN3.out rfl
    have hN4 := Lib.hid hN4
    have KH := Lib.hid K
    clear K
    go_wp2_with fail
    (with_reducible refine (hV2.out _ KH.out.b).mono ?_); rintro _ V7 ⟨rfl, hb⟩
    have K := KH.out.keep hb
    clear d0 d1 d2 d3 e0 e1 e2 e3 hb KH
    go_wp2_with fail
    (with_reducible refine (hN4.out _ K.b).mono ?_); rintro _ V7' ⟨Aw, cw, rfl, hi, hb⟩
    replace K := (K.keep hb).add (cl_isC Aw cw nc) hi
    clear hb hi
    go_wp2_with fail
    (with_reducible refine (hN1.out _ K.b).mono ?_); rintro _ V8 ⟨An, cn, rfl, hi, hb⟩
    replace K := K.keep hb
    have hS := HSn.out An Aw cn cw _ hi (K.get 0 rfl)
    replace K := K.tl'
    clear hb hi
    go_wp2_with fail
    (with_reducible refine hS.mono ?_); rintro _ V9 ⟨rfl, hb⟩
    replace K := K.keep hb
    clear hb hS hN4
  all_goals
    clear hN1 hN2 hN3 HSn HS0 hV1 hV2
    go_wp2_with fail
    (with_reducible refine (hS1.out _ K.b).mono ?_); rintro _ V10 ⟨As, cs, rfl, hi, hb⟩
    replace K := (K.keep hb).add (cl_isC As cs sc) hi
    clear hb hi
    go_wp2_with fail
    (with_reducible refine (hS2.out _ K.b).mono ?_); rintro _ V11 ⟨Bs, ds, rfl, hi, hb⟩
    replace K := K.keep hb
    have hS := HSs.out As Bs cs ds _ (K.get 0 rfl) hi
    replace K := K.tl'
    clear hb hi hS1 hS2 HSs
    go_wp2_with fail
    (with_reducible refine hS.mono ?_); rintro _ V12 ⟨rfl, hb⟩
    replace K := K.keep hb
    clear hb hS
    go_wp2_with fail
    (with_reducible refine (hM1.out _ K.b).mono ?_); rintro _ V13 ⟨Am, cm, rfl, hi, hb⟩
    replace K := (K.keep hb).add (cl_isC Am cm mc) hi
    clear hb hi
    go_wp2_with fail
    (with_reducible refine (hM2.out _ K.b).mono ?_); rintro _ V14 ⟨Bm, dm, rfl, hi, hb⟩
    replace K := K.keep hb
    have hS := HSm.out Am Bm cm dm _ (K.get 0 rfl) hi
    replace K := K.tl'
    clear hb hi hM1 hM2 HSm
    go_wp2_with fail
    (with_reducible refine hS.mono ?_); rintro _ V15 ⟨rfl, hb⟩
    replace K := K.keep hb
    clear hb hS
    have c0 := (K.get 4 rfl).c0
    have c1 := (K.get 4 rfl).c1
    go_wp2_with fail
    (with_reducible refine (hF1.out _ K.b).mono ?_); rintro _ V16 ⟨Af, cf, rfl, hi, hb⟩
    replace K := (K.keep hb).add (cl_isC Af cf fc) hi
    clear hb hi c0 c1
    have c0 := (K.get 5 rfl).c0
    have c1 := (K.get 5 rfl).c1
    go_wp2_with fail
    (with_reducible refine (hF2.out _ K.b).mono ?_); rintro _ V17 ⟨Bf, df, rfl, hi, hb⟩
    replace K := K.keep hb
    have hS := HSf.out Af Bf cf df _ (K.get 0 rfl) hi
    replace K := K.tl'
    clear hb hi hF1 hF2 HSf c0 c1
    go_wp2_with fail
    (with_reducible refine hS.mono ?_); rintro _ V18 ⟨rfl, hb⟩
    replace K := K.keep hb
    clear hb hS
    go_wp2_with fail
    (with_reducible refine (hP1.out _ K.b).mono ?_); rintro _ V19 ⟨Ap, cp, rfl, hi, hb⟩
    replace K := (K.keep hb).add (cl_isP Ap pc) hi
    clear hb hi
    go_wp2_with fail
    (with_reducible refine (hP2.out _ K.b).mono ?_); rintro _ V20 ⟨Bp, dp, rfl, hi, hb⟩
    replace K := (K.keep hb).add (cl_isP Bp pc) hi
    clear hb hi hP1 hP2
    obtain ⟨KL, hKL, KK⟩ := K.pack
    have HPa : Hid (∀ W : World, Kept w KL W → isP Ap pc W) := fun W k => by rw [hKL.out] at k; exact k.get 1 rfl
    have HPb : Hid (∀ W : World, Kept w KL W → isP Bp pc W) := fun W k => by rw [hKL.out] at k; exact k.get 0 rfl
    clear K hKL
    go_wp2_with fail
    go_loopw [169] (fun i wr => ∃ k : Nat, k ≤ pc.length ∧ i = .int .i64 ↑k ∧ Kept w KL wr)
      (fun i _ => pc.length - (intOf i).toNat)
    case atStart => exact ⟨0, Nat.zero_le _, rfl, KK⟩
    case round =>
      clear KK
      obtain ⟨k, hk, rfl, K⟩ := hrel
      by_cases hlt : k < pc.length
      · have hx : pc[k]? = some pc[k] := List.getElem?_eq_getElem hlt
        obtain ⟨x, hxe⟩ : ∃ x, pc[k] = x := ⟨_, rfl⟩
        rw [hxe] at hx
        have hne : pc ≠ [] := by intro h; rw [h] at hlt; simp at hlt
        obtain ⟨g, rfl, hg, hr⟩ := HPa.out wr K hne
        obtain ⟨f, rfl, hf, hs⟩ := HPb.out wr K hne
        obtain ⟨x0, x1⟩ := hr k x hx
        obtain ⟨y0, y1⟩ := hs k x hx
        simp only [Nat.zero_add] at x0 x1 y0 y1
        have hneq := fun W => neq_p (x := x) (y := x) W
        rw [decide_eq_true rfl] at hneq
        simp only [Bool.not_true] at hneq
        have KH := Lib.hid K
        clear hx hxe hr hs K
        go_wp2_with fail
        go_quiet (fail)
        rename_i nq
        have K := KH.out.drewN nq
        clear x0 x1 y0 y1 hneq KH
        generalize wr.drewN nq = wq at K ⊢
        go_wp2
        go_roundw
        case rel => exact ⟨k + 1, by omega, by go_num, K⟩
        case measure => simp [intOf]; omega
      · obtain rfl : k = pc.length := by omega
        go_wp2_with fail
        (with_reducible refine (HW.out _).mono ?_); rintro _ V ⟨rfl, hb⟩
        have hB := Lib.hid (K.keep hb).b
        clear K hb
        go_wp2
        go_ret
        exact ⟨rfl, hB.out⟩
end Go.Proofs.YtaanhddgmiggfaaGreat.Tells
