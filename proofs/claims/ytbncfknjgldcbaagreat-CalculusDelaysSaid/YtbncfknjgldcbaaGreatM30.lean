/- Merged texts: CDlLaw. -/
import Derived.Test.YtbncfknjgldcbaaGreatM29
/- CalculusDelays returns true. -/
namespace Go.Proofs.YtbncfknjgldcbaaGreat.DlLaw
open Go.RowKit Go.Joins Go.Shelf Go.Sort Num Mx

set_option maxRecDepth 100000 in
set_option maxHeartbeats 8000000 in
theorem walk (A0 A1 A2 A3 : Option Addr) (q0 q1 q2 q3 : Nat) (ms ns ps qs : List Int) (g h s d : Int) (hg : 0 ≤ g ∧ g ≤ 65535) (hh : 0 ≤ h ∧ h ≤ 65535) (hs : 0 ≤ s ∧ s ≤ 255) (hd : 0 ≤ d ∧ d ≤ 255) (w : World)
    (i0 : isU A0 ms w) (i1 : isU A1 ns w) (i2 : isU A2 ps w) (i3 : isU A3 qs w) (z0 : ∀ z ∈ ms, 0 ≤ z ∧ z ≤ 255) (z1 : ∀ z ∈ ns, 0 ≤ z ∧ z ≤ 255) (z2 : ∀ z ∈ ps, 0 ≤ z ∧ z ≤ 255) (z3 : ∀ z ∈ qs, 0 ≤ z ∧ z ≤ 255)
    (l0 : ms.length ≤ q0 ∧ q0 ≤ 9223372036854775807) (l1 : ns.length ≤ q1 ∧ q1 ≤ 9223372036854775807) (l2 : ps.length ≤ 9223372036854775807) (l3 : qs.length ≤ 9223372036854775807) :
    Calls Tryz.prog 6 #[.slice A0 ms.length q0, .slice A1 ns.length q1, .slice A2 ps.length q2, .slice A3 qs.length q3, .int .u16 g, .int .u16 h, .int .u8 s, .int .u8 d] w fun e w' => e = .returned (.bool true) ∧ Below w.heap.size w w' := by
  have HW : Hid (∀ W : World, _) := fun W => Aw3.walk W
  have HN : Hid (∀ (n d : Int) (W : World), _) := fun n d W => num3_any n d W
  have HBk : Hid (∀ (a b c d : Int) (W : World), _) := fun a b c d W => bucket3_any a b c d W
  obtain ⟨GP, hGP⟩ : ∃ x, 150 + g % 501 = x := ⟨_, rfl⟩
  obtain ⟨HP, hHP⟩ : ∃ x, 150 + h % 501 = x := ⟨_, rfl⟩
  obtain ⟨k, hk⟩ : ∃ x, 1 + s % 2 = x := ⟨_, rfl⟩
  have gg : 150 ≤ GP ∧ GP ≤ 650 := by omega
  have gh : 150 ≤ HP ∧ HP ≤ 650 := by omega
  have kk : 1 ≤ k ∧ k ≤ 2 := by omega
  obtain ⟨n1, hn1⟩ : ∃ n, min ms.length 12 = n := ⟨_, rfl⟩
  obtain ⟨n2, hn2⟩ : ∃ n, min ns.length 12 = n := ⟨_, rfl⟩
  have n1b : n1 ≤ 12 := by omega
  have n2b : n2 ≤ 12 := by omega
  have F1 := flow_any A0 A2 q0 q2 ms ps 0 GP z0 z2 l0.1 l0.2 l2 (by omega) (by omega) w i0 i2
  have F2 : Hid (∀ W : World, Below w.heap.size w W → _) := fun W hb => flow_any A1 A3 q1 q3 ns qs 1 HP z1 z3 l1.1 l1.2 l3 (by omega) (by omega) W (cl_isU A1 ns w W i1 hb) (cl_isU A3 qs w W i3 hb)
  rw [hn1] at F1
  rw [hn2] at F2
  have len1 := flow_len ms ps 0 GP n1
  have len2 := flow_len ns qs 1 HP n2
  have HC1 : Hid (∀ (A B : Option Addr) (ca cb : Nat) (W : World), isC A ca [flB GP] W → isS B (flowL ms ps 0 GP n1) W → _) := fun A B ca cb W h1 h2 => conf_flow z0 z2 (by decide) gg n1b A B ca cb W h1 h2
  have HC2 : Hid (∀ (A B : Option Addr) (ca cb : Nat) (W : World), isC A ca [flB HP] W → isS B (flowL ns qs 1 HP n2) W → _) := fun A B ca cb W h1 h2 => conf_flow z1 z3 (by decide) gh n2b A B ca cb W h1 h2
  have two := two_merge (gap := GP) (hap := HP) (a := flowL ms ps 0 GP n1) (b := flowL ns qs 1 HP n2) (by omega) (by omega) (fun x hx => (flow_mem z0 z2 (by omega) x hx).1) (fun x hx => (flow_mem z1 z3 (by omega) x hx).1) (flow_gap z2 (by omega) n1) (flow_gap z3 (by omega) n2) (fun x hx => (flow_mem z0 z2 (by omega) x hx).2) (fun x hx => (flow_mem z1 z3 (by omega) x hx).2)
  have fm1 := flow_mem z0 z2 (vl := 0) (gap := GP) (by omega) (n := n1)
  have fm2 := flow_mem z1 z3 (vl := 1) (gap := HP) (by omega) (n := n2)
  have tm1 := flow_time z0 z2 (vl := 0) gg n1b
  have tm2 := flow_time z1 z3 (vl := 1) gh n2b
  generalize hla : flowL ms ps 0 GP n1 = la at *
  generalize hlb : flowL ns qs 1 HP n2 = lb at *
  obtain ⟨L, hL⟩ : ∃ L, mergeL la lb = L := ⟨_, rfl⟩
  have hLl : L.length = n1 + n2 := by rw [← hL, mergeL_len, len1, len2]
  have hLm : ∀ x ∈ L, (0 ≤ x.t ∧ x.t ≤ 800000) ∧ (1 ≤ x.s ∧ x.s ≤ 72) ∧ (0 ≤ x.v ∧ x.v ≤ 1) := fun x hx => by
    rw [← hL] at hx
    rcases (mergeL_mem _ _ _).1 hx with hx | hx
    · exact ⟨tm1 x hx, (fm1 x hx).2.2, by have := (fm1 x hx).1; omega⟩
    · exact ⟨tm2 x hx, (fm2 x hx).2.2, by have := (fm2 x hx).1; omega⟩
  rw [hL] at two
  obtain ⟨N, hN⟩ : ∃ N, n1 + n2 = N := ⟨_, rfl⟩
  rw [hN] at hLl
  have hN2 : N ≤ 24 := by omega
  have hML : (mergeL la lb).length = N := by rw [hL, hLl]
  have HM : Hid (∀ (A B : Option Addr) (ca cb : Nat) (W : World), n1 ≤ ca → n2 ≤ cb → isS A la W → isS B lb W → _) := fun A B ca cb W h1 h2 h3 h4 => by
    have := merge_any A B ca cb la lb (by omega) (by omega) (by omega) W h3 h4
    rw [len1, len2, hML] at this
    exact this
  have HR1 : Hid (∀ W : World, _) := fun W => make_w 72 GP (by decide) (by omega) W
  have HR2 : Hid (∀ W : World, _) := fun W => make_w 72 HP (by decide) (by omega) W
  have hfr : frOk 0 L = true := frOk_of L 0 (fun x hx => (hLm x hx).1.1) two.o (fun x hx => ⟨by have := (hLm x hx).1.2; omega, (hLm x hx).2.1⟩)
  have HSv : Hid (∀ (A1 : Option Addr) (cap1 : Nat) (W : World), isS A1 L W → _) := fun A1 cap1 W hi => serve_w L N hLl hN2 two.o hLm k d kk hd A1 cap1 W hi
  have fd : Fit (d : Rat) := int_fit (by omega)
  have pd : 0 ≤ (d : Rat) := Rat.intCast_le_intCast.2 hd.1
  have dl := delay_two gg gh kk hd
  have bl := back_two gg gh kk hd fd
  obtain ⟨⟨e1, e2, e3⟩, hv1⟩ : ∃ t, delayV [[flB GP], [flB HP]] (Rat.divInt 1 k) (d : Rat) = t := ⟨_, rfl⟩
  obtain ⟨⟨e4, e5, e6⟩, hv2⟩ : ∃ t, backV [[flB GP], [flB HP]] (Rat.divInt 1 k) (d : Rat) fd = t := ⟨_, rfl⟩
  have HD : Hid (∀ (A : Option Addr) (cap : Nat) (W : World), isL A [[flB GP], [flB HP]] W → _) := fun A cap W hI => delay_w (by simp) (rate_nd kk).2.1 (rate_nd kk).2.2 fd pd 2 rfl 1 k d 1 e1 e2 e3 (rate_nd kk).1.1 (rate_nd kk).1.2 rfl rfl hv1 A cap W hI
  have HB : Hid (∀ (A : Option Addr) (cap : Nat) (W : World), isL A [[flB GP], [flB HP]] W → _) := fun A cap W hI => back_w (by simp) (rate_nd kk).2.1 (rate_nd kk).2.2 fd pd 2 rfl 1 k d 1 e4 e5 e6 (rate_nd kk).1.1 (rate_nd kk).1.2 rfl rfl hv2 A cap W hI
  rw [hv1] at dl
  rw [hv2] at bl
  clear hv1 hv2 tm1 tm2 fm1 fm2
  clear i0 i1 i2 i3 z0 z1 z2 z3 l0 l1 l2 l3 hla hlb
  have F1 := Lib.hid F1
  have hGP := Lib.hid hGP
  have hHP := Lib.hid hHP
  have hk := Lib.hid hk
  have K := Kept.start w
  have hGo := hGP.out
  have hHo := hHP.out
  have hko := hk.out
  go_enter Tryz.func6, Tryz.ntmps6
  go_wp2_with fail
  (with_reducible refine (F1.out).mono ?_); rintro e U1 ⟨v, rfl, hown, hb⟩
  obtain ⟨Aa, ca, rfl, hi⟩ := own_isS hown len1
  rw [len1] at hown ⊢
  have hca := own_cap hown rfl
  have F3 := F2.out _ hb
  replace K := (K.keep hb).add (cl_isS Aa la) hi
  clear hown hi hb F1 F2
  go_wp2_with fail
  (with_reducible refine (F3).mono ?_); rintro e U2 ⟨v, rfl, hown, hb⟩
  obtain ⟨Ab, cb, rfl, hi⟩ := own_isS hown len2
  rw [len2] at hown ⊢
  have hcb := own_cap hown rfl
  replace K := (K.keep hb).add (cl_isS Ab lb) hi
  clear hown hi hb F3
  have hEl := BoxN.new U2 76 #[.slice Aa n1 ca, .int .i64 GP, .slice Ab n2 cb, .int .i64 HP]
  replace K := (K.alloc (.cells #[.slice Aa n1 ca, .int .i64 GP, .slice Ab n2 cb, .int .i64 HP] 76)).add (cl_box U2.heap.size _ _) hEl
  clear hEl
  go_wp2_with fail
  generalize U2.alloc (.cells #[.slice Aa n1 ca, .int .i64 GP, .slice Ab n2 cb, .int .i64 HP] 76) = WE at *
  generalize U2.heap.size = gE at *
  have KE := Lib.hid K
  clear K
  obtain ⟨j0, hi, hz0, hz1, hz2⟩ := info_parts infoC
  go_loopw [22, 72] (fun u i wr => ∃ j : Nat, j ≤ 2 ∧ i = .int .i64 ↑j ∧ Below WE.heap.size WE wr ∧ (j = 0 → u = .slice none 0 0) ∧ (j = 1 → ∃ G c g0, u = .slice (some ⟨G, 0, none⟩) 1 c ∧ (WE.heap.size ≤ g0 ∧ g0 < G) ∧ wr.ownsRow (g0 + 1) 23 1 u 1 [.slice (some ⟨g0, 0, none⟩) 1 1] ∧ BoxN wr g0 80 #[.int .i64 72, .int .i64 1, .int .i64 (Rat.divInt 72 GP).num, .int .i64 ((Rat.divInt 72 GP).den : Int)]) ∧ (j = 2 → ∃ G c, u = .slice G 2 c ∧ isL G [[flB GP], [flB HP]] wr)) (fun _ i _ => 2 - (intOf i).toNat)
  case atStart => exact ⟨0, by decide, rfl, Below.refl _ _, fun _ => rfl, by simp, by simp⟩
  case round =>
    obtain ⟨j, hj, rfl, hBw, hj0, hj1, hj2⟩ := hrel
    have K := KE.out.anew.keep hBw
    have HBw := Lib.hid hBw
    clear hBw
    have hj3 : j = 0 ∨ j = 1 ∨ j = 2 := by omega
    clear hj
    rcases hj3 with rfl | rfl | rfl
    ·   obtain rfl := hj0 rfl
        clear hj0 hj1 hj2
        have e0 := (K.get 0 rfl).cell 0
        have e1 := (K.get 0 rfl).cell 1
        go_wp2_with fail
        (with_reducible refine (HR1.out _).mono ?_); rintro _ V1 ⟨rfl, hb⟩
        clear e0 e1
        have HB1 := Lib.hid (((Below.refl wr.heap.size wr).alloc (Nat.le_refl _) (.cells #[.slice Aa n1 ca, .int .i64 GP] 76)).trans (hb.mono (by simp)))
        replace K := (((K.alloc (.cells #[.slice Aa n1 ca, .int .i64 GP] 76)).add (cl_box wr.heap.size _ _) (BoxN.new wr 76 #[.slice Aa n1 ca, .int .i64 GP])).keep hb).box (Rat.divInt 72 GP).num ((Rat.divInt 72 GP).den : Int)
        clear hb
        have HB2 := Lib.hid (HB1.out.alloc HB1.out.size (.cells #[.int .i64 (Rat.divInt 72 GP).num, .int .i64 ((Rat.divInt 72 GP).den : Int)] 25))
        have r0 := (K.get 0 rfl).c0
        have r1 := (K.get 0 rfl).c1
        have l25 := (K.get 0 rfl).lt
        go_wp2_with fail
        generalize V1.alloc (.cells #[.int .i64 (Rat.divInt 72 GP).num, .int .i64 ((Rat.divInt 72 GP).den : Int)] 25) = W0 at *
        generalize hg24 : wr.heap.size = g24 at *
        generalize V1.heap.size = g25 at *
        refine wp_region_inv (Inv := fun Lb a W => ∃ (b0 b1 b2 b3 b4 : Bool) (G3 : Nat), Lb = #[b0, b1, b2, b3, b4] ∧ a = { tmps := #[Value.slice A0 ms.length q0, Value.slice A1 ns.length q1, Value.slice A2 ps.length q2, Value.slice A3 qs.length q3, Value.int IntKind.u16 g, Value.int IntKind.u16 h, Value.int IntKind.u8 s, Value.int IntKind.u8 d, undef, undef, undef, undef, undef, undef, undef, undef, u16, Value.int IntKind.i64 GP, Value.int IntKind.i64 HP, Value.int IntKind.i64 k, Value.slice Aa n1 ca, Value.slice Ab n2 cb, Value.slice none 0 0, undef, Value.pointer (some ⟨g24, 0, none⟩), Value.pointer (some ⟨g25, 0, none⟩), Value.int IntKind.i64 0, (bif b4 then .slice (some ⟨G3, 0, none⟩) 1 1 else u27), u28, u29, undef, undef, undef, undef, undef, undef, undef, undef, undef, undef, undef, undef, undef, undef, Value.int IntKind.u16 g, Value.int IntKind.i64 g, Value.int IntKind.i64 (g % 501), Value.int IntKind.i64 GP, Value.int IntKind.u16 h, Value.int IntKind.i64 h, Value.int IntKind.i64 (h % 501), Value.int IntKind.i64 HP, Value.int IntKind.u8 s, Value.int IntKind.i64 s, Value.int IntKind.i64 (s % 2), Value.int IntKind.i64 k, Value.slice A0 ms.length q0, Value.slice A2 ps.length q2, Value.int IntKind.i64 GP, Value.slice Aa n1 ca, Value.slice A1 ns.length q1, Value.slice A3 qs.length q3, Value.int IntKind.i64 HP, Value.slice Ab n2 cb, Value.slice Aa n1 ca, Value.int IntKind.i64 GP, Value.agg #[Value.slice Aa n1 ca, Value.int IntKind.i64 GP], Value.slice Ab n2 cb, Value.int IntKind.i64 HP, Value.agg #[Value.slice Ab n2 cb, Value.int IntKind.i64 HP], Value.slice (some ⟨gE, 0, none⟩) 2 2, Value.int IntKind.i64 2, Value.int IntKind.i64 0, Value.bool true, Value.pointer (some ⟨gE, 0, none⟩), Value.agg #[Value.slice Aa n1 ca, Value.int IntKind.i64 GP], Value.tuple #[Value.agg #[Value.int IntKind.i64 (Rat.divInt 72 GP).num, Value.int IntKind.i64 ↑(Rat.divInt 72 GP).den], Value.int IntKind.i64 0], Value.pointer (some ⟨g24, 1, none⟩), Value.int IntKind.i64 GP, Value.tuple #[Value.agg #[Value.int IntKind.i64 (Rat.divInt 72 GP).num, Value.int IntKind.i64 ↑(Rat.divInt 72 GP).den], Value.int IntKind.i64 0], Value.agg #[Value.int IntKind.i64 (Rat.divInt 72 GP).num, Value.int IntKind.i64 ↑(Rat.divInt 72 GP).den], Value.int IntKind.i64 0, (bif b0 then .agg #[.int .i64 72, .int .i64 1] else u82), (bif b1 then .agg #[.int .i64 (Rat.divInt 72 GP).num, .int .i64 ((Rat.divInt 72 GP).den : Int)] else u83), (bif b2 then .agg #[.int .i64 72, .int .i64 1, .int .i64 (Rat.divInt 72 GP).num, .int .i64 ((Rat.divInt 72 GP).den : Int)] else u84), (bif b3 then .slice (some ⟨G3, 0, none⟩) 1 1 else u85), u86, u87, u88, u89, u90, u91, u92, u93, u94, u95, u96, u97, u98, u99, u100, u101, u102, u103, u104, u105, u106, u107, undef, undef, undef, undef, undef, undef, undef, undef, undef, undef, undef, undef, undef, undef, undef, undef, undef, undef, undef, undef, undef, undef, undef, undef, undef, undef, undef, undef, undef, undef, undef, undef, undef, undef, undef, undef, undef, undef, undef, undef, undef, undef, undef, undef, undef, undef, undef, undef, undef, undef, undef, undef, undef, undef, undef, undef, undef, undef, undef, undef, undef, undef, undef, undef, undef, undef, undef, undef, undef, undef, undef, undef, undef, undef, undef, undef, undef, undef, undef, undef, undef, undef, undef, undef, undef, undef, undef, undef, undef, undef, undef, undef, undef, undef, undef, undef, undef, undef, undef, undef, undef, undef, undef, undef, undef, undef, undef, undef, undef, undef, undef, undef, undef, undef, undef, undef, undef, undef, undef, undef], defers := [] } ∧ (b2 = true → b0 = true ∧ b1 = true) ∧ (b3 = true → b2 = true) ∧ (b4 = true → b3 = true) ∧ Below W0.heap.size W0 W ∧ (b3 = true → W0.heap.size ≤ G3 ∧ G3 < W.heap.size ∧ (true = true → BoxN W G3 80 #[.int .i64 72, .int .i64 1, .int .i64 (Rat.divInt 72 GP).num, .int .i64 ((Rat.divInt 72 GP).den : Int)]) ∧ (true = true → BoxN W G3 80 #[.int .i64 72, .int .i64 1, .int .i64 (Rat.divInt 72 GP).num, .int .i64 ((Rat.divInt 72 GP).den : Int)]))) (by kernel_rfl) (down_of (by decide +kernel)) ?start ?size ?done ?step
        case start => exact ⟨false, false, false, false, false, 0, rfl, rfl, by simp, by simp, by simp, (Below.refl _ _).drew, by simp⟩
        case size =>
          rintro Lb aR W ⟨b0, b1, b2, b3, b4, G3, rfl, -⟩
          rfl
        case step =>
          rintro Lb aR W i o ⟨b0, b1, b2, b3, b4, G3, rfl, rfl, p2, p3, p4, f0, f1⟩ ho hl' hdep
          have hi' : i < 5 := (Array.getElem?_eq_some_iff.1 ho).1
          have hi2 : i = 0 ∨ i = 1 ∨ i = 2 ∨ i = 3 ∨ i = 4 := by omega
          clear hi'
          replace p2 := Lib.hid p2
          replace p3 := Lib.hid p3
          replace p4 := Lib.hid p4
          replace f0 := Lib.hid f0
          replace f1 := Lib.hid f1
          rcases hi2 with rfl | rfl | rfl | rfl | rfl
          · cases ho
            obtain rfl : b0 = false := hl'
            clear hdep
            obtain rfl : b2 = false := by cases b2 with | false => rfl | true => exact absurd (p2.out rfl).1 (by simp)
            obtain rfl : b3 = false := by cases b3 with | false => rfl | true => exact absurd (p3.out rfl) (by simp)
            obtain rfl : b4 = false := by cases b4 with | false => rfl | true => exact absurd (p4.out rfl) (by simp)
            refine wpOp_step rfl (fun K hK => ?_)
            go_simp
            (with_reducible refine (HN.out _ _ _).mono ?_); rintro e w4 ⟨rfl, hb⟩
            refine hK _ _ ?_; clear hK K
            exact ⟨true, b1, false, false, false, G3, rfl, rfl, by simp, by simp, by simp, f0.out.trans (hb.mono f0.out.size), fun h => ⟨(f1.out h).1, Nat.lt_of_lt_of_le (f1.out h).2.1 hb.size, fun e => ((f1.out h).2.2.1 e).below hb (f1.out h).2.1, fun e => ((f1.out h).2.2.2 e).below hb (f1.out h).2.1⟩⟩
          · cases ho
            obtain rfl : b1 = false := hl'
            clear hdep
            obtain rfl : b2 = false := by cases b2 with | false => rfl | true => exact absurd (p2.out rfl).2 (by simp)
            obtain rfl : b3 = false := by cases b3 with | false => rfl | true => exact absurd (p3.out rfl) (by simp)
            obtain rfl : b4 = false := by cases b4 with | false => rfl | true => exact absurd (p4.out rfl) (by simp)
            have c0 := (f0.out.cell (l25)).trans r0
            have c1 := (f0.out.cell (l25)).trans r1
            refine wpOp_step rfl (fun K hK => ?_)
            go_simp
            refine hK _ _ ?_; clear hK K
            exact ⟨b0, true, false, false, false, G3, rfl, rfl, by simp, by simp, by simp, f0.out, f1.out⟩
          · cases ho
            obtain rfl : b2 = false := hl'
            obtain rfl : b0 = true := hdep ⟨0, .data⟩ (by simp) rfl
            obtain rfl : b1 = true := hdep ⟨1, .data⟩ (by simp) rfl
            clear hdep
            obtain rfl : b3 = false := by cases b3 with | false => rfl | true => exact absurd (p3.out rfl) (by simp)
            obtain rfl : b4 = false := by cases b4 with | false => rfl | true => exact absurd (p4.out rfl) (by simp)
            refine wpOp_step rfl (fun K hK => ?_)
            simp only [cond_true]
            go_simp
            (with_reducible refine (HBk.out _ _ _ _ _).mono ?_); rintro e w4 ⟨rfl, hb⟩
            refine hK _ _ ?_; clear hK K
            exact ⟨true, true, true, false, false, G3, rfl, rfl, by simp, by simp, by simp, f0.out.trans (hb.mono f0.out.size), fun h => ⟨(f1.out h).1, Nat.lt_of_lt_of_le (f1.out h).2.1 hb.size, fun e => ((f1.out h).2.2.1 e).below hb (f1.out h).2.1, fun e => ((f1.out h).2.2.2 e).below hb (f1.out h).2.1⟩⟩
          · cases ho
            obtain rfl : b3 = false := hl'
            obtain rfl : b2 = true := hdep ⟨2, .data⟩ (by simp) rfl
            clear hdep
            obtain rfl : b4 = false := by cases b4 with | false => rfl | true => exact absurd (p4.out rfl) (by simp)
            refine wpOp_step rfl (fun K hK => ?_)
            simp only [cond_true]
            go_simp
            refine hK _ _ ?_; clear hK K
            exact ⟨b0, b1, true, true, false, W.heap.size, rfl, rfl, p2.out, by simp, by simp, f0.out.alloc f0.out.size _, fun _ => ⟨f0.out.size, by simp, fun _ => BoxN.new W 80 #[.int .i64 72, .int .i64 1, .int .i64 (Rat.divInt 72 GP).num, .int .i64 ((Rat.divInt 72 GP).den : Int)], fun _ => BoxN.new W 80 #[.int .i64 72, .int .i64 1, .int .i64 (Rat.divInt 72 GP).num, .int .i64 ((Rat.divInt 72 GP).den : Int)]⟩⟩
          · cases ho
            obtain rfl : b4 = false := hl'
            obtain rfl : b3 = true := hdep ⟨3, .data⟩ (by simp) rfl
            clear hdep
            refine wpOp_step rfl (fun K hK => ?_)
            simp only [cond_true]
            go_simp
            refine hK _ _ ?_; clear hK K
            exact ⟨b0, b1, b2, true, true, G3, rfl, rfl, p2.out, p3.out, by simp, f0.out, f1.out⟩
        case done =>
          rintro Lb aR W ⟨j0, j1, j2, j3, j4, G3, rfl, rfl, -, -, -, f0, f1⟩ hall
          obtain rfl : j0 = true := hall 0 (by decide)
          obtain rfl : j1 = true := hall 1 (by decide)
          obtain rfl : j2 = true := hall 2 (by decide)
          obtain rfl : j3 = true := hall 3 (by decide)
          obtain rfl : j4 = true := hall 4 (by decide)
          clear hall
          obtain ⟨hg3, -, -, hb27⟩ := f1 rfl
          replace hb27 := hb27 rfl
          have hB0 := f0
          replace K := (K.keep f0).add (cl_box G3 _ _) hb27
          clear f0 f1 hb27 r0 r1 l25
          simp only [cond_true]
          obtain ⟨Y1, hY1⟩ : ∃ Y, Y = W := ⟨_, rfl⟩
          obtain ⟨g0, hg0⟩ : ∃ g, g = G3 := ⟨_, rfl⟩
          subst hY1 hg0
          have HB3 := Lib.hid (HB2.out.trans (hB0.mono (by rw [← hg24]; exact HB2.out.size)))
          clear hB0
          have e0 := (K.get 2 rfl).cell 0
          have e1 := (K.get 2 rfl).cell 1
          have hC := box_isC gg (K.get 0 rfl)
          have hS := (K.get 5 rfl)
          go_wp2_with fail
          (with_reducible refine (HC1.out _ _ _ _ _ hC hS).mono ?_); rintro _ V2 ⟨rfl, hb⟩
          clear e0 e1 hC hS
          have HB4 := Lib.hid (HB3.out.trans (hb.mono (by rw [← hg24]; exact HB3.out.size)))
          replace K := K.keep hb
          clear hb
          have hbk := K.get 0 rfl
          have hlt := BoxN.lt hbk
          have hbk2 := Lib.hid (BoxN.alloc hbk (.cells #[.slice (some ⟨g0, 0, none⟩) 1 1] 23))
          have hone : Hid (∀ u ∈ [Value.slice (some ⟨g0, 0, none⟩) 1 1], u.oneCell' = true) := by intro u hu; rw [List.mem_singleton.1 hu]; rfl
          have HB5 := Lib.hid (HBw.out.trans (HB4.out.mono (by rw [← hg24]; exact HBw.out.size)))
          have hz4 := HB2.out.size
          have hgw : WE.heap.size ≤ g0 := by have := HBw.out.size; omega
          have hgr : wr.heap.size ≤ g0 := by omega
          clear hbk hg3
          go_wp2_with (at_builtin; refine wpList_append_own _ rfl _ _ 50 rfl (g0 + 1) 23 j0 _ 1 24 Tryz.underlying50 hi hz0 hz1 hz2 rfl (by decide) _ _ _ rfl (World.ownsRow_nil _ _ _ _) ⟨V2.heap.size, 0, none⟩ 1 1 [.slice (some ⟨g0, 0, none⟩) 1 1] rfl rfl (World.news_of_block (heap_alloc_new V2 _)) hone.out (by unfold maxLen; omega) (by omega) (by simp; omega) ?_; intro v' w' hown' hgrow _)
          obtain ⟨G1, c1, rfl, hG1, hG2⟩ := own_form hown'
          have hbx := BoxN.kept hbk2.out hgrow (by intro e; cases e)
          have hB6 := Lib.hid ((HB5.out.alloc HB5.out.size (.cells #[.slice (some ⟨g0, 0, none⟩) 1 1] 23)).grown hgrow (by simp; have := HB5.out.size; omega) (fun j e => by cases e))
          have Hown' := Lib.hid hown'
          have Hbx := Lib.hid hbx
          clear hown' hbx hgrow K
          go_wp2
          go_roundw
          case rel => exact ⟨1, by decide, by go_num, hB6.out, by simp, fun _ => ⟨G1, c1, g0, rfl, ⟨hgw, hG1⟩, Hown'.out, Hbx.out⟩, by simp⟩
          case measure => simp [intOf]
    ·   obtain ⟨G, c, ga, rfl, ⟨hga, hgG⟩, hown0, hbx⟩ := hj1 rfl
        have Hown0 := Lib.hid hown0
        have Hbx := Lib.hid hbx
        clear hj0 hj1 hj2 hown0 hbx
        have e0 := (K.get 0 rfl).cell 2
        have e1 := (K.get 0 rfl).cell 3
        go_wp2_with fail
        (with_reducible refine (HR2.out _).mono ?_); rintro _ V1 ⟨rfl, hb⟩
        clear e0 e1
        have HB1 := Lib.hid (((Below.refl wr.heap.size wr).alloc (Nat.le_refl _) (.cells #[.slice Ab n2 cb, .int .i64 HP] 76)).trans (hb.mono (by simp)))
        replace K := (((K.alloc (.cells #[.slice Ab n2 cb, .int .i64 HP] 76)).add (cl_box wr.heap.size _ _) (BoxN.new wr 76 #[.slice Ab n2 cb, .int .i64 HP])).keep hb).box (Rat.divInt 72 HP).num ((Rat.divInt 72 HP).den : Int)
        clear hb
        have HB2 := Lib.hid (HB1.out.alloc HB1.out.size (.cells #[.int .i64 (Rat.divInt 72 HP).num, .int .i64 ((Rat.divInt 72 HP).den : Int)] 25))
        have r0 := (K.get 0 rfl).c0
        have r1 := (K.get 0 rfl).c1
        have l25 := (K.get 0 rfl).lt
        go_wp2_with fail
        generalize V1.alloc (.cells #[.int .i64 (Rat.divInt 72 HP).num, .int .i64 ((Rat.divInt 72 HP).den : Int)] 25) = W0 at *
        generalize hg24 : wr.heap.size = g24 at *
        generalize V1.heap.size = g25 at *
        refine wp_region_inv (Inv := fun Lb a W => ∃ (b0 b1 b2 b3 b4 : Bool) (G3 : Nat), Lb = #[b0, b1, b2, b3, b4] ∧ a = { tmps := #[Value.slice A0 ms.length q0, Value.slice A1 ns.length q1, Value.slice A2 ps.length q2, Value.slice A3 qs.length q3, Value.int IntKind.u16 g, Value.int IntKind.u16 h, Value.int IntKind.u8 s, Value.int IntKind.u8 d, undef, undef, undef, undef, undef, undef, undef, undef, u16, Value.int IntKind.i64 GP, Value.int IntKind.i64 HP, Value.int IntKind.i64 k, Value.slice Aa n1 ca, Value.slice Ab n2 cb, Value.slice (some ⟨G, 0, none⟩) 1 c, undef, Value.pointer (some ⟨g24, 0, none⟩), Value.pointer (some ⟨g25, 0, none⟩), Value.int IntKind.i64 0, (bif b4 then .slice (some ⟨G3, 0, none⟩) 1 1 else u27), u28, u29, undef, undef, undef, undef, undef, undef, undef, undef, undef, undef, undef, undef, undef, undef, Value.int IntKind.u16 g, Value.int IntKind.i64 g, Value.int IntKind.i64 (g % 501), Value.int IntKind.i64 GP, Value.int IntKind.u16 h, Value.int IntKind.i64 h, Value.int IntKind.i64 (h % 501), Value.int IntKind.i64 HP, Value.int IntKind.u8 s, Value.int IntKind.i64 s, Value.int IntKind.i64 (s % 2), Value.int IntKind.i64 k, Value.slice A0 ms.length q0, Value.slice A2 ps.length q2, Value.int IntKind.i64 GP, Value.slice Aa n1 ca, Value.slice A1 ns.length q1, Value.slice A3 qs.length q3, Value.int IntKind.i64 HP, Value.slice Ab n2 cb, Value.slice Aa n1 ca, Value.int IntKind.i64 GP, Value.agg #[Value.slice Aa n1 ca, Value.int IntKind.i64 GP], Value.slice Ab n2 cb, Value.int IntKind.i64 HP, Value.agg #[Value.slice Ab n2 cb, Value.int IntKind.i64 HP], Value.slice (some ⟨gE, 0, none⟩) 2 2, Value.int IntKind.i64 2, Value.int IntKind.i64 1, Value.bool true, Value.pointer (some ⟨gE, 2, none⟩), Value.agg #[Value.slice Ab n2 cb, Value.int IntKind.i64 HP], Value.tuple #[Value.agg #[Value.int IntKind.i64 (Rat.divInt 72 HP).num, Value.int IntKind.i64 ↑(Rat.divInt 72 HP).den], Value.int IntKind.i64 0], Value.pointer (some ⟨g24, 1, none⟩), Value.int IntKind.i64 HP, Value.tuple #[Value.agg #[Value.int IntKind.i64 (Rat.divInt 72 HP).num, Value.int IntKind.i64 ↑(Rat.divInt 72 HP).den], Value.int IntKind.i64 0], Value.agg #[Value.int IntKind.i64 (Rat.divInt 72 HP).num, Value.int IntKind.i64 ↑(Rat.divInt 72 HP).den], Value.int IntKind.i64 0, (bif b0 then .agg #[.int .i64 72, .int .i64 1] else u82), (bif b1 then .agg #[.int .i64 (Rat.divInt 72 HP).num, .int .i64 ((Rat.divInt 72 HP).den : Int)] else u83), (bif b2 then .agg #[.int .i64 72, .int .i64 1, .int .i64 (Rat.divInt 72 HP).num, .int .i64 ((Rat.divInt 72 HP).den : Int)] else u84), (bif b3 then .slice (some ⟨G3, 0, none⟩) 1 1 else u85), u86, u87, u88, u89, u90, u91, u92, u93, u94, u95, u96, u97, u98, u99, u100, u101, u102, u103, u104, u105, u106, u107, undef, undef, undef, undef, undef, undef, undef, undef, undef, undef, undef, undef, undef, undef, undef, undef, undef, undef, undef, undef, undef, undef, undef, undef, undef, undef, undef, undef, undef, undef, undef, undef, undef, undef, undef, undef, undef, undef, undef, undef, undef, undef, undef, undef, undef, undef, undef, undef, undef, undef, undef, undef, undef, undef, undef, undef, undef, undef, undef, undef, undef, undef, undef, undef, undef, undef, undef, undef, undef, undef, undef, undef, undef, undef, undef, undef, undef, undef, undef, undef, undef, undef, undef, undef, undef, undef, undef, undef, undef, undef, undef, undef, undef, undef, undef, undef, undef, undef, undef, undef, undef, undef, undef, undef, undef, undef, undef, undef, undef, undef, undef, undef, undef, undef, undef, undef, undef, undef, undef, undef], defers := [] } ∧ (b2 = true → b0 = true ∧ b1 = true) ∧ (b3 = true → b2 = true) ∧ (b4 = true → b3 = true) ∧ Below W0.heap.size W0 W ∧ (b3 = true → W0.heap.size ≤ G3 ∧ G3 < W.heap.size ∧ (true = true → BoxN W G3 80 #[.int .i64 72, .int .i64 1, .int .i64 (Rat.divInt 72 HP).num, .int .i64 ((Rat.divInt 72 HP).den : Int)]) ∧ (true = true → BoxN W G3 80 #[.int .i64 72, .int .i64 1, .int .i64 (Rat.divInt 72 HP).num, .int .i64 ((Rat.divInt 72 HP).den : Int)]))) (by kernel_rfl) (down_of (by decide +kernel)) ?start ?size ?done ?step
        case start => exact ⟨false, false, false, false, false, 0, rfl, rfl, by simp, by simp, by simp, (Below.refl _ _).drew, by simp⟩
        case size =>
          rintro Lb aR W ⟨b0, b1, b2, b3, b4, G3, rfl, -⟩
          rfl
        case step =>
          rintro Lb aR W i o ⟨b0, b1, b2, b3, b4, G3, rfl, rfl, p2, p3, p4, f0, f1⟩ ho hl' hdep
          have hi' : i < 5 := (Array.getElem?_eq_some_iff.1 ho).1
          have hi2 : i = 0 ∨ i = 1 ∨ i = 2 ∨ i = 3 ∨ i = 4 := by omega
          clear hi'
          replace p2 := Lib.hid p2
          replace p3 := Lib.hid p3
          replace p4 := Lib.hid p4
          replace f0 := Lib.hid f0
          replace f1 := Lib.hid f1
          rcases hi2 with rfl | rfl | rfl | rfl | rfl
          · cases ho
            obtain rfl : b0 = false := hl'
            clear hdep
            obtain rfl : b2 = false := by cases b2 with | false => rfl | true => exact absurd (p2.out rfl).1 (by simp)
            obtain rfl : b3 = false := by cases b3 with | false => rfl | true => exact absurd (p3.out rfl) (by simp)
            obtain rfl : b4 = false := by cases b4 with | false => rfl | true => exact absurd (p4.out rfl) (by simp)
            refine wpOp_step rfl (fun K hK => ?_)
            go_simp
            (with_reducible refine (HN.out _ _ _).mono ?_); rintro e w4 ⟨rfl, hb⟩
            refine hK _ _ ?_; clear hK K
            exact ⟨true, b1, false, false, false, G3, rfl, rfl, by simp, by simp, by simp, f0.out.trans (hb.mono f0.out.size), fun h => ⟨(f1.out h).1, Nat.lt_of_lt_of_le (f1.out h).2.1 hb.size, fun e => ((f1.out h).2.2.1 e).below hb (f1.out h).2.1, fun e => ((f1.out h).2.2.2 e).below hb (f1.out h).2.1⟩⟩
          · cases ho
            obtain rfl : b1 = false := hl'
            clear hdep
            obtain rfl : b2 = false := by cases b2 with | false => rfl | true => exact absurd (p2.out rfl).2 (by simp)
            obtain rfl : b3 = false := by cases b3 with | false => rfl | true => exact absurd (p3.out rfl) (by simp)
            obtain rfl : b4 = false := by cases b4 with | false => rfl | true => exact absurd (p4.out rfl) (by simp)
            have c0 := (f0.out.cell (l25)).trans r0
            have c1 := (f0.out.cell (l25)).trans r1
            refine wpOp_step rfl (fun K hK => ?_)
            go_simp
            refine hK _ _ ?_; clear hK K
            exact ⟨b0, true, false, false, false, G3, rfl, rfl, by simp, by simp, by simp, f0.out, f1.out⟩
          · cases ho
            obtain rfl : b2 = false := hl'
            obtain rfl : b0 = true := hdep ⟨0, .data⟩ (by simp) rfl
            obtain rfl : b1 = true := hdep ⟨1, .data⟩ (by simp) rfl
            clear hdep
            obtain rfl : b3 = false := by cases b3 with | false => rfl | true => exact absurd (p3.out rfl) (by simp)
            obtain rfl : b4 = false := by cases b4 with | false => rfl | true => exact absurd (p4.out rfl) (by simp)
            refine wpOp_step rfl (fun K hK => ?_)
            simp only [cond_true]
            go_simp
            (with_reducible refine (HBk.out _ _ _ _ _).mono ?_); rintro e w4 ⟨rfl, hb⟩
            refine hK _ _ ?_; clear hK K
            exact ⟨true, true, true, false, false, G3, rfl, rfl, by simp, by simp, by simp, f0.out.trans (hb.mono f0.out.size), fun h => ⟨(f1.out h).1, Nat.lt_of_lt_of_le (f1.out h).2.1 hb.size, fun e => ((f1.out h).2.2.1 e).below hb (f1.out h).2.1, fun e => ((f1.out h).2.2.2 e).below hb (f1.out h).2.1⟩⟩
          · cases ho
            obtain rfl : b3 = false := hl'
            obtain rfl : b2 = true := hdep ⟨2, .data⟩ (by simp) rfl
            clear hdep
            obtain rfl : b4 = false := by cases b4 with | false => rfl | true => exact absurd (p4.out rfl) (by simp)
            refine wpOp_step rfl (fun K hK => ?_)
            simp only [cond_true]
            go_simp
            refine hK _ _ ?_; clear hK K
            exact ⟨b0, b1, true, true, false, W.heap.size, rfl, rfl, p2.out, by simp, by simp, f0.out.alloc f0.out.size _, fun _ => ⟨f0.out.size, by simp, fun _ => BoxN.new W 80 #[.int .i64 72, .int .i64 1, .int .i64 (Rat.divInt 72 HP).num, .int .i64 ((Rat.divInt 72 HP).den : Int)], fun _ => BoxN.new W 80 #[.int .i64 72, .int .i64 1, .int .i64 (Rat.divInt 72 HP).num, .int .i64 ((Rat.divInt 72 HP).den : Int)]⟩⟩
          · cases ho
            obtain rfl : b4 = false := hl'
            obtain rfl : b3 = true := hdep ⟨3, .data⟩ (by simp) rfl
            clear hdep
            refine wpOp_step rfl (fun K hK => ?_)
            simp only [cond_true]
            go_simp
            refine hK _ _ ?_; clear hK K
            exact ⟨b0, b1, b2, true, true, G3, rfl, rfl, p2.out, p3.out, by simp, f0.out, f1.out⟩
        case done =>
          rintro Lb aR W ⟨j0, j1, j2, j3, j4, G3, rfl, rfl, -, -, -, f0, f1⟩ hall
          obtain rfl : j0 = true := hall 0 (by decide)
          obtain rfl : j1 = true := hall 1 (by decide)
          obtain rfl : j2 = true := hall 2 (by decide)
          obtain rfl : j3 = true := hall 3 (by decide)
          obtain rfl : j4 = true := hall 4 (by decide)
          clear hall
          obtain ⟨hg3, -, -, hb27⟩ := f1 rfl
          replace hb27 := hb27 rfl
          have hB0 := f0
          replace K := (K.keep f0).add (cl_box G3 _ _) hb27
          clear f0 f1 hb27 r0 r1 l25
          simp only [cond_true]
          obtain ⟨Y1, hY1⟩ : ∃ Y, Y = W := ⟨_, rfl⟩
          obtain ⟨g0, hg0⟩ : ∃ g, g = G3 := ⟨_, rfl⟩
          subst hY1 hg0
          have HB3 := Lib.hid (HB2.out.trans (hB0.mono (by rw [← hg24]; exact HB2.out.size)))
          clear hB0
          have e0 := (K.get 2 rfl).cell 0
          have e1 := (K.get 2 rfl).cell 1
          have hC := box_isC gh (K.get 0 rfl)
          have hS := (K.get 4 rfl)
          go_wp2_with fail
          (with_reducible refine (HC2.out _ _ _ _ _ hC hS).mono ?_); rintro _ V2 ⟨rfl, hb⟩
          clear e0 e1 hC hS
          have HB4 := Lib.hid (HB3.out.trans (hb.mono (by rw [← hg24]; exact HB3.out.size)))
          replace K := K.keep hb
          clear hb
          have hbk := K.get 0 rfl
          have hlt := BoxN.lt hbk
          have hbk2 := Lib.hid (BoxN.alloc hbk (.cells #[.slice (some ⟨g0, 0, none⟩) 1 1] 23))
          have hone : Hid (∀ u ∈ [Value.slice (some ⟨g0, 0, none⟩) 1 1], u.oneCell' = true) := by intro u hu; rw [List.mem_singleton.1 hu]; rfl
          have HB5 := Lib.hid (HBw.out.trans (HB4.out.mono (by rw [← hg24]; exact HBw.out.size)))
          have hz4 := HB2.out.size
          have hgw : WE.heap.size ≤ g0 := by have := HBw.out.size; omega
          have hgr : wr.heap.size ≤ g0 := by omega
          clear hbk hg3
          have hGl := (own_form Hown0.out)
          obtain ⟨Gx, cx, ex, hGx, hGlt⟩ := hGl
          simp only [Value.slice.injEq, Option.some.injEq, Addr.mk.injEq, and_true, true_and] at ex
          obtain ⟨rfl, rfl⟩ := ex
          have hgx : ga + 1 ≤ V2.heap.size := by have := HB4.out.size; omega
          have Hown1 := Lib.hid (own_kept (own_kept Hown0.out (by rw [hg24]; exact HB4.out)) ((Below.refl _ _).alloc (Nat.le_refl _) (.cells #[.slice (some ⟨g0, 0, none⟩) 1 1] 23)))
          have Hba := Lib.hid ((Hbx.out.below (by rw [hg24]; exact HB4.out) Hbx.out.lt).alloc (.cells #[.slice (some ⟨g0, 0, none⟩) 1 1] 23))
          go_wp2_with (at_builtin; refine wpList_append_own _ rfl _ _ 50 rfl (ga + 1) 23 j0 _ 1 24 Tryz.underlying50 hi hz0 hz1 hz2 rfl (by decide) _ _ _ rfl Hown1.out ⟨V2.heap.size, 0, none⟩ 1 1 [.slice (some ⟨g0, 0, none⟩) 1 1] rfl rfl (World.news_of_block (heap_alloc_new V2 _)) hone.out (by unfold maxLen; omega) (by omega) (by simp; omega) ?_; intro v' w' hown' hgrow _)
          obtain ⟨G1, c1, rfl, hG1, hG2⟩ := own_form hown'
          have hb1 := BoxN.kept Hba.out hgrow (by intro e; have : ga = G := Option.some.inj e; omega)
          have hb2 := BoxN.kept hbk2.out hgrow (by intro e; have : g0 = G := Option.some.inj e; omega)
          have hIL := Lib.hid (isL_own hown' hG2 (box_isC gg hb1) (box_isC gh hb2) rfl rfl)
          have hB6 := Lib.hid ((HB5.out.alloc HB5.out.size (.cells #[.slice (some ⟨g0, 0, none⟩) 1 1] 23)).grown hgrow (by simp; have := HB5.out.size; omega) (fun j e => by have : G = j := Option.some.inj e; omega))
          clear hown' hb1 hb2 hgrow K
          go_wp2
          go_roundw
          case rel => exact ⟨2, by decide, by go_num, hB6.out, by simp, by simp, fun _ => ⟨_, c1, rfl, hIL.out⟩⟩
          case measure => simp [intOf]
    ·   obtain ⟨GL, cL, rfl, hIL⟩ := hj2 rfl
        clear hj0 hj1 hj2
        replace K := K.add (cl_isL GL _) hIL
        clear hIL
        go_wp2_with fail
        (with_reducible refine (HN.out _ _ _).mono ?_); rintro e X1 ⟨rfl, hb⟩
        replace K := K.keep hb
        clear hb
        go_wp2_with fail
        (with_reducible refine (HN.out _ _ _).mono ?_); rintro e X2 ⟨rfl, hb⟩
        replace K := ((K.keep hb).alloc (.cells #[.int .i64 1, .int .i64 k, .int .i64 d, .int .i64 1] 52)).add (cl_box X2.heap.size _ _) (BoxN.new X2 52 #[.int .i64 1, .int .i64 k, .int .i64 d, .int .i64 1])
        clear hb
        go_wp2_with fail
        (with_reducible refine (HM.out _ _ _ _ _ hca hcb (K.get 4 rfl) (K.get 3 rfl)).mono ?_); rintro e X3 ⟨GM, cM, rfl, hown, hb⟩
        rw [hL] at hown
        have hSM : isS GM L X3 := by
          obtain ⟨A9, c9, e9, h9⟩ := own_isS hown hLl
          simp only [Value.slice.injEq] at e9
          obtain ⟨rfl, -, -⟩ := e9
          exact h9
        replace K := (K.keep hb).add (cl_isS GM L) hSM
        clear hb hown
        go_wp2_with fail
        (with_reducible refine (HSv.out _ _ _ hSM).mono ?_); rintro e X4 ⟨GN, cN, rfl, hNs, hb⟩
        replace K := (K.keep hb).add (cl_isN GN (serveL k d 0 L)) hNs
        clear hb hNs hSM
        have s0 := (K.get 2 rfl).cell 0
        have s1 := (K.get 2 rfl).cell 1
        have s2 := (K.get 2 rfl).cell 2
        have s3 := (K.get 2 rfl).cell 3
        go_wp2_with fail
        (with_reducible refine (HD.out _ _ _ (K.get 3 rfl)).mono ?_); rintro e X5 ⟨rfl, hb⟩
        clear s0 s1 s2 s3
        replace K := (K.keep hb).box (e1) (e2)
        clear hb
        have s0 := (K.get 3 rfl).cell 0
        have s1 := (K.get 3 rfl).cell 1
        have s2 := (K.get 3 rfl).cell 2
        have s3 := (K.get 3 rfl).cell 3
        go_wp2_with fail
        (with_reducible refine (HB.out _ _ _ (K.get 4 rfl)).mono ?_); rintro e X6 ⟨rfl, hb⟩
        clear s0 s1 s2 s3
        replace K := (K.keep hb).box (e4) (e5)
        clear hb
        by_cases hsl : GP * HP < k * (72 * (GP + HP))
        · rw [if_pos hsl] at dl bl
          simp only [Prod.mk.injEq] at dl bl
          obtain ⟨rfl, rfl, rfl⟩ := dl
          obtain ⟨rfl, rfl, rfl⟩ := bl
          have hm1 : 72 * k * (GP + HP) = k * (72 * (GP + HP)) := by rw [Int.mul_comm 72 k, Int.mul_assoc]
          have hgt : decide (GP * HP < 72 * k * (GP + HP)) = true := decide_eq_true (by rw [hm1]; exact hsl)
          have hb1 := mul_bd (a := k) (b := 72 * (GP + HP)) (A := 2) (B := 93600) (by omega) (by omega) (by omega) (by omega)
          have hb2 := mul_bd (a := GP) (b := HP) (A := 650) (B := 650) (by omega) (by omega) (by omega) (by omega)
          rw [← hm1] at hb1
          have hw1 : IntKind.i64.wrap (72 * k * (GP + HP)) = 72 * k * (GP + HP) := MoLaw_wrap (by omega)
          have hw2 : IntKind.i64.wrap (GP * HP) = GP * HP := MoLaw_wrap (by omega)
          go_wp2_with fail
          (with_reducible refine (HW.out _).mono ?_); rintro _ Z ⟨rfl, hb⟩
          have hB := Lib.hid (KE.out.b.trans ((K.keep hb).b.mono KE.out.b.size))
          clear K hb
          go_wp2
          go_ret
          exact ⟨rfl, hB.out⟩
        rw [if_neg hsl] at dl bl
        simp only [Prod.mk.injEq] at dl bl
        obtain ⟨rfl, rfl, rfl⟩ := dl
        obtain ⟨mb, ⟨rfl, rfl, rfl⟩, ⟨fmb, fm72⟩, hmb⟩ := bl
        go_wp2_with fail
        have hc : k * (72 * (GP + HP)) ≤ GP * HP := by omega
        generalize X6.alloc (.cells #[.int .i64 mb.num, .int .i64 (mb.den : Int)] 25) = XW at *
        generalize X5.heap.size = gbd at *
        generalize X6.heap.size = gst at *
        have KL := Lib.hid K
        clear K
        go_loopw [175] (fun i wr => ∃ x : Nat, x ≤ N ∧ i = .int .i64 ↑x ∧ Below XW.heap.size XW wr) (fun i _ => N - (intOf i).toNat)
        case atStart => exact ⟨0, Nat.zero_le _, rfl, Below.refl _ _⟩
        case round =>
          obtain ⟨x, hx, rfl, hBx⟩ := hrel
          have K := KL.out.anew.keep hBx
          have HBx := Lib.hid hBx
          clear hBx
          by_cases hlt : x < N
          · have hf : L[x]? = some (L[x]'(by omega)) := List.getElem?_eq_getElem (by omega)
            obtain ⟨f, hfe⟩ : ∃ f, L[x]'(by omega) = f := ⟨_, rfl⟩
            rw [hfe] at hf
            have hfm := hLm f (List.mem_of_getElem? hf)
            have hLne : L ≠ [] := by intro e; rw [e] at hf; simp at hf
            have hT := in_time (k := k) (d := d) (gap := GP) (hap := HP) (by omega) (by omega) (by omega) hd.1 hc two hf
            have hE0 := (end_bd (slow := k) (delay := d) ⟨by omega, by omega⟩ ⟨hd.1, by omega⟩ hfr (x + 1))
            obtain ⟨E, hE⟩ : ∃ E, endL k d 0 (L.take (x + 1)) = E := ⟨_, rfl⟩
            have hEn := end_get k d (e := 0) hf
            rw [hE] at hT hE0 hEn
            have hNne : serveL k d 0 L ≠ [] := by intro e; rw [e] at hEn; simp at hEn
            obtain ⟨bm, om, rfl, hbm, hrm⟩ := ((K.get 3 rfl)) hLne
            obtain ⟨m0, m1, m2⟩ := hrm x f hf
            obtain ⟨bn, on, rfl, hbn, hrn⟩ := ((K.get 2 rfl)) hNne
            have n0 := hrn x E hEn
            have hcm := cmpQ_le.2 (show ((E - f.t : Int) : Rat) ≤ ((144 * k + d : Int) : Rat) from Rat.intCast_le_intCast.2 hT)
            have HC1 : Hid (∀ W : World, Calls Tryz.prog 44 #[.agg #[.int .i64 (E - f.t), .int .i64 1], .agg #[.int .i64 (144 * k + d), .int .i64 1]] W fun e w' => e = .returned (.int .i64 (cmpQ ((E - f.t : Int) : Rat) ((144 * k + d : Int) : Rat))) ∧ Below W.heap.size W w') := fun W => (cmp_r (int_fit (z := E - f.t) (by omega)) (int_fit (z := 144 * k + d) (by omega)) W).mono fun e w' ⟨a, b⟩ => ⟨a, b.b⟩
            generalize cmpQ ((E - f.t : Int) : Rat) ((144 * k + d : Int) : Rat) = kc at HC1 hcm
            clear hrm hrn
            go_wp2_with fail
            replace K := (K.alloc (.cells #[.int .i64 f.t, .int .i64 f.v, .int .i64 f.s] 85)).add (cl_box wr.heap.size _ _) (BoxN.new wr 85 #[.int .i64 f.t, .int .i64 f.v, .int .i64 f.s])
            have n0' := (((Below.refl wr.heap.size wr).alloc (Nat.le_refl _) (.cells #[.int .i64 f.t, .int .i64 f.v, .int .i64 f.s] 85)).cell (p := ⟨bn, on + x, none⟩) hbn).trans n0
            have hbn' : bn < (wr.alloc (.cells #[.int .i64 f.t, .int .i64 f.v, .int .i64 f.s] 85)).heap.size := by rw [World.size_alloc]; omega
            have hBx2 := Lib.hid (HBx.out.alloc HBx.out.size (.cells #[.int .i64 f.t, .int .i64 f.v, .int .i64 f.s] 85))
            have a0 := (K.get 0 rfl).cell 0
            have d0 := (K.get 2 rfl).c0
            have d1 := (K.get 2 rfl).c1
            have lfb := (K.get 0 rfl).lt
            have lbd := (K.get 2 rfl).lt
            clear m0 m1 m2 n0
            generalize wr.alloc (.cells #[.int .i64 f.t, .int .i64 f.v, .int .i64 f.s] 85) = W0 at *
            generalize hg39 : wr.heap.size = g39 at *
            have hkd : decide (0 < kc) = false := decide_eq_false (by omega)
            have hwE : IntKind.i64.wrap (E - f.t) = E - f.t := MoLaw_wrap (by omega)
            refine wp_region_inv (Inv := fun Lb a W => ∃ (b0 b1 b2 b3 b4 b5 b6 b7 b8 b9 b10 : Bool) (Gx : Nat), Lb = #[b0, b1, b2, b3, b4, b5, b6, b7, b8, b9, b10] ∧ a = { tmps := #[Value.slice A0 ms.length q0, Value.slice A1 ns.length q1, Value.slice A2 ps.length q2, Value.slice A3 qs.length q3, Value.int IntKind.u16 g, Value.int IntKind.u16 h, Value.int IntKind.u8 s, Value.int IntKind.u8 d, undef, undef, undef, undef, undef, undef, undef, undef, u16, Value.int IntKind.i64 GP, Value.int IntKind.i64 HP, Value.int IntKind.i64 k, Value.slice Aa n1 ca, Value.slice Ab n2 cb, Value.slice GL 2 cL, undef, u24, u25, u26, u27, u28, u29, Value.pointer (some ⟨X2.heap.size, 0, none⟩), Value.slice (some ⟨bm, om, none⟩) N cM, Value.slice (some ⟨bn, on, none⟩) N cN, Value.int IntKind.i64 0, Value.pointer (some ⟨gbd, 0, none⟩), Value.int IntKind.i64 0, Value.pointer (some ⟨gst, 0, none⟩), Value.int IntKind.i64 0, Value.int IntKind.i64 ↑x, Value.pointer (some ⟨g39, 0, none⟩), u40, u41, u42, u43, Value.int IntKind.u16 g, Value.int IntKind.i64 g, Value.int IntKind.i64 (g % 501), Value.int IntKind.i64 GP, Value.int IntKind.u16 h, Value.int IntKind.i64 h, Value.int IntKind.i64 (h % 501), Value.int IntKind.i64 HP, Value.int IntKind.u8 s, Value.int IntKind.i64 s, Value.int IntKind.i64 (s % 2), Value.int IntKind.i64 k, Value.slice A0 ms.length q0, Value.slice A2 ps.length q2, Value.int IntKind.i64 GP, Value.slice Aa n1 ca, Value.slice A1 ns.length q1, Value.slice A3 qs.length q3, Value.int IntKind.i64 HP, Value.slice Ab n2 cb, Value.slice Aa n1 ca, Value.int IntKind.i64 GP, Value.agg #[Value.slice Aa n1 ca, Value.int IntKind.i64 GP], Value.slice Ab n2 cb, Value.int IntKind.i64 HP, Value.agg #[Value.slice Ab n2 cb, Value.int IntKind.i64 HP], Value.slice (some ⟨gE, 0, none⟩) 2 2, Value.int IntKind.i64 2, Value.int IntKind.i64 2, Value.bool false, u74, u75, u76, u77, u78, u79, u80, u81, u82, u83, u84, u85, u86, u87, u88, u89, u90, u91, u92, u93, u94, u95, u96, u97, u98, u99, u100, u101, u102, u103, u104, u105, u106, u107, Value.int IntKind.i64 k, Value.agg #[Value.int IntKind.i64 1, Value.int IntKind.i64 k], Value.int IntKind.u8 d, Value.int IntKind.i64 d, Value.agg #[Value.int IntKind.i64 d, Value.int IntKind.i64 1], Value.agg #[Value.int IntKind.i64 1, Value.int IntKind.i64 k, Value.int IntKind.i64 d, Value.int IntKind.i64 1], Value.slice Aa n1 ca, Value.slice Ab n2 cb, Value.slice (some ⟨bm, om, none⟩) N cM, Value.tuple #[Value.slice (some ⟨bn, on, none⟩) N cN, Value.int IntKind.i64 0], Value.slice (some ⟨bm, om, none⟩) N cM, Value.int IntKind.i64 k, Value.int IntKind.u8 d, Value.int IntKind.i64 d, Value.tuple #[Value.slice (some ⟨bn, on, none⟩) N cN, Value.int IntKind.i64 0], Value.slice (some ⟨bn, on, none⟩) N cN, Value.int IntKind.i64 0, Value.tuple #[Value.agg #[Value.int IntKind.i64 (144 * k + d), Value.int IntKind.i64 1], Value.int IntKind.i64 0], Value.slice GL 2 cL, Value.agg #[Value.int IntKind.i64 1, Value.int IntKind.i64 k, Value.int IntKind.i64 d, Value.int IntKind.i64 1], Value.tuple #[Value.agg #[Value.int IntKind.i64 (144 * k + d), Value.int IntKind.i64 1], Value.int IntKind.i64 0], Value.agg #[Value.int IntKind.i64 (144 * k + d), Value.int IntKind.i64 1], Value.int IntKind.i64 0, Value.tuple #[Value.agg #[Value.int IntKind.i64 mb.num, Value.int IntKind.i64 ↑mb.den], Value.int IntKind.i64 0], Value.slice GL 2 cL, Value.agg #[Value.int IntKind.i64 1, Value.int IntKind.i64 k, Value.int IntKind.i64 d, Value.int IntKind.i64 1], Value.tuple #[Value.agg #[Value.int IntKind.i64 mb.num, Value.int IntKind.i64 ↑mb.den], Value.int IntKind.i64 0], Value.agg #[Value.int IntKind.i64 mb.num, Value.int IntKind.i64 ↑mb.den], Value.int IntKind.i64 0, Value.int IntKind.i64 0, Value.bool false, undef, undef, undef, undef, undef, undef, undef, undef, undef, undef, undef, undef, undef, undef, undef, undef, undef, Value.int IntKind.i64 0, Value.bool false, Value.bool false, Value.int IntKind.i64 0, Value.bool false, Value.bool false, Value.bool false, Value.int IntKind.i64 0, Value.bool false, Value.bool false, Value.bool false, Value.slice (some ⟨bn, on, none⟩) N cN, Value.int IntKind.i64 ↑N, Value.slice (some ⟨bm, om, none⟩) N cM, Value.int IntKind.i64 ↑N, Value.bool false, Value.bool false, Value.slice (some ⟨bm, om, none⟩) N cM, Value.int IntKind.i64 ↑N, Value.int IntKind.i64 ↑x, Value.bool true, Value.int IntKind.i64 ↑x, Value.pointer (some ⟨bm, om + x * 3, none⟩), Value.agg #[Value.int IntKind.i64 f.t, Value.int IntKind.i64 f.v, Value.int IntKind.i64 f.s], (bif b0 then .slice (some ⟨bn, on, none⟩) N cN else u180), (bif b1 then .int .i64 (x : Nat) else u181), (bif b2 then .pointer (some ⟨bn, on + x, none⟩) else u182), (bif b3 then .int .i64 E else u183), (bif b4 then .pointer (some ⟨g39, 0, none⟩) else u184), (bif b5 then .int .i64 f.t else u185), (bif b6 then .int .i64 (E - f.t) else u186), (bif b7 then .agg #[.int .i64 (E - f.t), .int .i64 1] else u187), (bif b8 then .agg #[.int .i64 (144 * k + d), .int .i64 1] else u188), (bif b9 then .int .i64 kc else u189), (bif b10 then .bool false else u190), u191, u192, u193, u194, u195, u196, u197, u198, u199, u200, u201, u202, u203, u204, u205, u206, u207, u208, u209, u210, u211, u212, u213, u214, u215, u216, u217, u218, u219, u220, u221, u222, u223, u224, u225, u226, undef], defers := [] } ∧ Below W0.heap.size W0 W) (by kernel_rfl) (down_of (by decide +kernel)) ?start ?size ?done ?step
            case start => exact ⟨false, false, false, false, false, false, false, false, false, false, false, 0, rfl, rfl, (Below.refl _ _).drew⟩
            case size =>
              rintro Lb aR W ⟨b0, b1, b2, b3, b4, b5, b6, b7, b8, b9, b10, Gx, rfl, -⟩
              rfl
            case step =>
              rintro Lb aR W i o ⟨b0, b1, b2, b3, b4, b5, b6, b7, b8, b9, b10, Gx, rfl, rfl, f0⟩ ho hl' hdep
              have hi' : i < 11 := (Array.getElem?_eq_some_iff.1 ho).1
              have hi2 : i = 0 ∨ i = 1 ∨ i = 2 ∨ i = 3 ∨ i = 4 ∨ i = 5 ∨ i = 6 ∨ i = 7 ∨ i = 8 ∨ i = 9 ∨ i = 10 := by omega
              clear hi'
              replace f0 := Lib.hid f0
              rcases hi2 with rfl | rfl | rfl | rfl | rfl | rfl | rfl | rfl | rfl | rfl | rfl
              · cases ho
                obtain rfl : b0 = false := hl'
                clear hdep
                refine wpOp_step rfl (fun K hK => ?_)
                go_simp
                refine hK _ _ ?_; clear hK K
                exact ⟨true, b1, b2, b3, b4, b5, b6, b7, b8, b9, b10, Gx, rfl, rfl, f0.out⟩
              · cases ho
                obtain rfl : b1 = false := hl'
                clear hdep
                refine wpOp_step rfl (fun K hK => ?_)
                go_simp
                refine hK _ _ ?_; clear hK K
                exact ⟨b0, true, b2, b3, b4, b5, b6, b7, b8, b9, b10, Gx, rfl, rfl, f0.out⟩
              · cases ho
                obtain rfl : b2 = false := hl'
                obtain rfl : b0 = true := hdep ⟨0, .data⟩ (by simp) rfl
                obtain rfl : b1 = true := hdep ⟨1, .data⟩ (by simp) rfl
                clear hdep
                refine wpOp_step rfl (fun K hK => ?_)
                simp only [cond_true]
                go_simp
                refine hK _ _ ?_; clear hK K
                exact ⟨true, true, true, b3, b4, b5, b6, b7, b8, b9, b10, Gx, rfl, rfl, f0.out⟩
              · cases ho
                obtain rfl : b3 = false := hl'
                obtain rfl : b2 = true := hdep ⟨2, .data⟩ (by simp) rfl
                clear hdep
                have c0 := (f0.out.cell (hbn')).trans n0'
                refine wpOp_step rfl (fun K hK => ?_)
                simp only [cond_true]
                go_simp
                refine hK _ _ ?_; clear hK K
                exact ⟨b0, b1, true, true, b4, b5, b6, b7, b8, b9, b10, Gx, rfl, rfl, f0.out⟩
              · cases ho
                obtain rfl : b4 = false := hl'
                clear hdep
                refine wpOp_step rfl (fun K hK => ?_)
                go_simp
                refine hK _ _ ?_; clear hK K
                exact ⟨b0, b1, b2, b3, true, b5, b6, b7, b8, b9, b10, Gx, rfl, rfl, f0.out⟩
              · cases ho
                obtain rfl : b5 = false := hl'
                obtain rfl : b4 = true := hdep ⟨4, .data⟩ (by simp) rfl
                clear hdep
                have c0 := (f0.out.cell (lfb)).trans a0
                refine wpOp_step rfl (fun K hK => ?_)
                simp only [cond_true]
                go_simp
                refine hK _ _ ?_; clear hK K
                exact ⟨b0, b1, b2, b3, true, true, b6, b7, b8, b9, b10, Gx, rfl, rfl, f0.out⟩
              · cases ho
                obtain rfl : b6 = false := hl'
                obtain rfl : b3 = true := hdep ⟨3, .data⟩ (by simp) rfl
                obtain rfl : b5 = true := hdep ⟨5, .data⟩ (by simp) rfl
                clear hdep
                refine wpOp_step rfl (fun K hK => ?_)
                simp only [cond_true]
                go_simp
                refine hK _ _ ?_; clear hK K
                exact ⟨b0, b1, b2, true, b4, true, true, b7, b8, b9, b10, Gx, rfl, rfl, f0.out⟩
              · cases ho
                obtain rfl : b7 = false := hl'
                obtain rfl : b6 = true := hdep ⟨6, .data⟩ (by simp) rfl
                clear hdep
                refine wpOp_step rfl (fun K hK => ?_)
                simp only [cond_true]
                go_simp
                (with_reducible refine (HN.out _ _ _).mono ?_); rintro e w4 ⟨rfl, hb⟩
                refine hK _ _ ?_; clear hK K
                exact ⟨b0, b1, b2, b3, b4, b5, true, true, b8, b9, b10, Gx, rfl, rfl, f0.out.trans (hb.mono f0.out.size)⟩
              · cases ho
                obtain rfl : b8 = false := hl'
                clear hdep
                have c0 := (f0.out.cell (lbd)).trans d0
                have c1 := (f0.out.cell (lbd)).trans d1
                refine wpOp_step rfl (fun K hK => ?_)
                go_simp
                refine hK _ _ ?_; clear hK K
                exact ⟨b0, b1, b2, b3, b4, b5, b6, b7, true, b9, b10, Gx, rfl, rfl, f0.out⟩
              · cases ho
                obtain rfl : b9 = false := hl'
                obtain rfl : b7 = true := hdep ⟨7, .data⟩ (by simp) rfl
                obtain rfl : b8 = true := hdep ⟨8, .data⟩ (by simp) rfl
                clear hdep
                refine wpOp_step rfl (fun K hK => ?_)
                simp only [cond_true]
                go_simp
                (with_reducible refine (HC1.out _).mono ?_); rintro e w4 ⟨rfl, hb⟩
                refine hK _ _ ?_; clear hK K
                exact ⟨b0, b1, b2, b3, b4, b5, b6, true, true, true, b10, Gx, rfl, rfl, f0.out.trans (hb.mono f0.out.size)⟩
              · cases ho
                obtain rfl : b10 = false := hl'
                obtain rfl : b9 = true := hdep ⟨9, .data⟩ (by simp) rfl
                clear hdep
                refine wpOp_step rfl (fun K hK => ?_)
                simp only [cond_true]
                go_simp
                refine hK _ _ ?_; clear hK K
                exact ⟨b0, b1, b2, b3, b4, b5, b6, b7, b8, true, true, Gx, rfl, rfl, f0.out⟩
            case done =>
              rintro Lb aR W ⟨j0, j1, j2, j3, j4, j5, j6, j7, j8, j9, j10, Gx, rfl, rfl, f0⟩ hall
              obtain rfl : j0 = true := hall 0 (by decide)
              obtain rfl : j1 = true := hall 1 (by decide)
              obtain rfl : j2 = true := hall 2 (by decide)
              obtain rfl : j3 = true := hall 3 (by decide)
              obtain rfl : j4 = true := hall 4 (by decide)
              obtain rfl : j5 = true := hall 5 (by decide)
              obtain rfl : j6 = true := hall 6 (by decide)
              obtain rfl : j7 = true := hall 7 (by decide)
              obtain rfl : j8 = true := hall 8 (by decide)
              obtain rfl : j9 = true := hall 9 (by decide)
              obtain rfl : j10 = true := hall 10 (by decide)
              clear hall
              have hBx3 := Lib.hid (hBx2.out.trans (f0.mono hBx2.out.size))
              replace K := K.keep f0
              clear f0 a0 d0 d1 lfb lbd n0' hbn'
              simp only [cond_true]
              go_wp2_with fail
              obtain ⟨Y, hY⟩ : ∃ Y, Y = W := ⟨_, rfl⟩
              subst hY
              have K26 := Lib.hid K
              clear K
              go_loopw [40, 193] (fun u i wz => ∃ z : Nat, z ≤ x + 1 ∧ i = .int .i64 ↑z ∧ u = .int .i64 (heldL k d f.t L z) ∧ Below Y.heap.size Y wz) (fun _ i _ => x + 1 - (intOf i).toNat)
              case atStart => exact ⟨0, Nat.zero_le _, rfl, rfl, Below.refl _ _⟩
              case round =>
                obtain ⟨z, hz, rfl, rfl, hBz⟩ := hrel
                have K := K26.out.anew.keep hBz
                have HBz := Lib.hid hBz
                clear hBz
                have hhb := held_bd (k := k) (d := d) (T := f.t) (l := L) (fun y hy => (hLm y hy).2.1) z
                by_cases hlz : z < x + 1
                · have hf2 : L[z]? = some (L[z]'(by omega)) := List.getElem?_eq_getElem (by omega)
                  obtain ⟨f2, hfe2⟩ : ∃ f2, L[z]'(by omega) = f2 := ⟨_, rfl⟩
                  rw [hfe2] at hf2
                  have hfm2 := hLm f2 (List.mem_of_getElem? hf2)
                  have hE2 := end_get k d (e := 0) hf2
                  obtain ⟨E2, hEe⟩ : ∃ E, endL k d 0 (L.take (z + 1)) = E := ⟨_, rfl⟩
                  rw [hEe] at hE2
                  have hh1 : Hid (heldL k d f.t L (z + 1) = heldL k d f.t L z + if f.t < E2 then f2.s else 0) := by unfold Hid; rw [heldL, hEe, hf2]; rfl
                  obtain ⟨bn2, on2, eN, hbn2, hrn2⟩ := ((K.get 3 rfl)) hNne
                  cases eN
                  have n2 := hrn2 z E2 hE2
                  obtain ⟨bm2, om2, eM, hbm2, hrm2⟩ := ((K.get 4 rfl)) hLne
                  cases eM
                  obtain ⟨p0, p1, p2⟩ := hrm2 z f2 hf2
                  have a0 := ((K.get 0 rfl)).cell 0
                  obtain ⟨hl, hhl⟩ : ∃ v, heldL k d f.t L z = v := ⟨_, rfl⟩
                  rw [hhl] at hhb ⊢
                  have hhl' := Lib.hid hhl
                  have hzk : (z : Int) ≤ 24 := by omega
                  clear hrn2 hrm2 hfe2 hf2 hE2 hEe hhl K
                  by_cases hgt : f.t < E2
                  · have hdt : decide (f.t < E2) = true := decide_eq_true hgt
                    go_wp2_with fail
                    go_quiet (fail)
                    go_wp2_with fail
                    go_roundw
                    case rel => exact ⟨z + 1, by omega, by go_num, by rw [hh1.out, if_pos hgt, hhl'.out], below_drewN HBz.out _⟩
                    case measure => simp [intOf]; omega
                  · have hdt : decide (f.t < E2) = false := decide_eq_false hgt
                    go_wp2_with fail
                    go_quiet (fail)
                    go_wp2_with fail
                    go_roundw
                    case rel => exact ⟨z + 1, by omega, by go_num, by rw [hh1.out, if_neg (show ¬ f.t < E2 by omega), hhl'.out, Int.add_zero], below_drewN HBz.out _⟩
                    case measure => simp [intOf]; omega
                · obtain rfl : z = x + 1 := by omega
                  have d0 := ((K.get 1 rfl)).c0
                  have d1 := ((K.get 1 rfl)).c1
                  have lst := ((K.get 1 rfl)).lt
                  have HAd : Hid (∀ W : World, Calls Tryz.prog 45 #[.agg #[.int .i64 mb.num, .int .i64 (mb.den : Int)], .agg #[.int .i64 72, .int .i64 1]] W fun e w' => e = .returned (.tuple #[.agg #[.int .i64 (mb + 72).num, .int .i64 ((mb + 72).den : Int)], .int .i64 0]) ∧ Below W.heap.size W w') := fun W => add_yes fmb (s := 72) ⟨by decide, by decide⟩ fm72 W
                  obtain ⟨H, hH⟩ : ∃ v, heldL k d f.t L (x + 1) = v := ⟨_, rfl⟩
                  rw [hH] at hhb ⊢
                  go_wp2_with fail
                  obtain ⟨W0, hW0⟩ : ∃ Y, Y = wr := ⟨_, rfl⟩
                  subst hW0
                  refine wp_region_inv (Inv := fun Lb a W => ∃ (b0 b1 b2 b3 b4 b5 b6 b7 b8 : Bool) (G6 : Nat), Lb = #[b0, b1, b2, b3, b4, b5, b6, b7, b8] ∧ a = { tmps := #[Value.slice A0 ms.length q0, Value.slice A1 ns.length q1, Value.slice A2 ps.length q2, Value.slice A3 qs.length q3, Value.int IntKind.u16 g, Value.int IntKind.u16 h, Value.int IntKind.u8 s, Value.int IntKind.u8 d, undef, undef, undef, undef, undef, undef, undef, undef, u16, Value.int IntKind.i64 GP, Value.int IntKind.i64 HP, Value.int IntKind.i64 k, Value.slice Aa n1 ca, Value.slice Ab n2 cb, Value.slice GL 2 cL, undef, u24, u25, u26, u27, u28, u29, Value.pointer (some ⟨X2.heap.size, 0, none⟩), Value.slice (some ⟨bm, om, none⟩) N cM, Value.slice (some ⟨bn, on, none⟩) N cN, Value.int IntKind.i64 0, Value.pointer (some ⟨gbd, 0, none⟩), Value.int IntKind.i64 0, Value.pointer (some ⟨gst, 0, none⟩), Value.int IntKind.i64 0, Value.int IntKind.i64 ↑x, Value.pointer (some ⟨g39, 0, none⟩), Value.int IntKind.i64 H, u41, (bif b6 then .pointer (some ⟨G6, 0, none⟩) else u42), (bif b8 then .int .i64 0 else u43), Value.int IntKind.u16 g, Value.int IntKind.i64 g, Value.int IntKind.i64 (g % 501), Value.int IntKind.i64 GP, Value.int IntKind.u16 h, Value.int IntKind.i64 h, Value.int IntKind.i64 (h % 501), Value.int IntKind.i64 HP, Value.int IntKind.u8 s, Value.int IntKind.i64 s, Value.int IntKind.i64 (s % 2), Value.int IntKind.i64 k, Value.slice A0 ms.length q0, Value.slice A2 ps.length q2, Value.int IntKind.i64 GP, Value.slice Aa n1 ca, Value.slice A1 ns.length q1, Value.slice A3 qs.length q3, Value.int IntKind.i64 HP, Value.slice Ab n2 cb, Value.slice Aa n1 ca, Value.int IntKind.i64 GP, Value.agg #[Value.slice Aa n1 ca, Value.int IntKind.i64 GP], Value.slice Ab n2 cb, Value.int IntKind.i64 HP, Value.agg #[Value.slice Ab n2 cb, Value.int IntKind.i64 HP], Value.slice (some ⟨gE, 0, none⟩) 2 2, Value.int IntKind.i64 2, Value.int IntKind.i64 2, Value.bool false, u74, u75, u76, u77, u78, u79, u80, u81, u82, u83, u84, u85, u86, u87, u88, u89, u90, u91, u92, u93, u94, u95, u96, u97, u98, u99, u100, u101, u102, u103, u104, u105, u106, u107, Value.int IntKind.i64 k, Value.agg #[Value.int IntKind.i64 1, Value.int IntKind.i64 k], Value.int IntKind.u8 d, Value.int IntKind.i64 d, Value.agg #[Value.int IntKind.i64 d, Value.int IntKind.i64 1], Value.agg #[Value.int IntKind.i64 1, Value.int IntKind.i64 k, Value.int IntKind.i64 d, Value.int IntKind.i64 1], Value.slice Aa n1 ca, Value.slice Ab n2 cb, Value.slice (some ⟨bm, om, none⟩) N cM, Value.tuple #[Value.slice (some ⟨bn, on, none⟩) N cN, Value.int IntKind.i64 0], Value.slice (some ⟨bm, om, none⟩) N cM, Value.int IntKind.i64 k, Value.int IntKind.u8 d, Value.int IntKind.i64 d, Value.tuple #[Value.slice (some ⟨bn, on, none⟩) N cN, Value.int IntKind.i64 0], Value.slice (some ⟨bn, on, none⟩) N cN, Value.int IntKind.i64 0, Value.tuple #[Value.agg #[Value.int IntKind.i64 (144 * k + d), Value.int IntKind.i64 1], Value.int IntKind.i64 0], Value.slice GL 2 cL, Value.agg #[Value.int IntKind.i64 1, Value.int IntKind.i64 k, Value.int IntKind.i64 d, Value.int IntKind.i64 1], Value.tuple #[Value.agg #[Value.int IntKind.i64 (144 * k + d), Value.int IntKind.i64 1], Value.int IntKind.i64 0], Value.agg #[Value.int IntKind.i64 (144 * k + d), Value.int IntKind.i64 1], Value.int IntKind.i64 0, Value.tuple #[Value.agg #[Value.int IntKind.i64 mb.num, Value.int IntKind.i64 ↑mb.den], Value.int IntKind.i64 0], Value.slice GL 2 cL, Value.agg #[Value.int IntKind.i64 1, Value.int IntKind.i64 k, Value.int IntKind.i64 d, Value.int IntKind.i64 1], Value.tuple #[Value.agg #[Value.int IntKind.i64 mb.num, Value.int IntKind.i64 ↑mb.den], Value.int IntKind.i64 0], Value.agg #[Value.int IntKind.i64 mb.num, Value.int IntKind.i64 ↑mb.den], Value.int IntKind.i64 0, Value.int IntKind.i64 0, Value.bool false, undef, undef, undef, undef, undef, undef, undef, undef, undef, undef, undef, undef, undef, undef, undef, undef, undef, Value.int IntKind.i64 0, Value.bool false, Value.bool false, Value.int IntKind.i64 0, Value.bool false, Value.bool false, Value.bool false, Value.int IntKind.i64 0, Value.bool false, Value.bool false, Value.bool false, Value.slice (some ⟨bn, on, none⟩) N cN, Value.int IntKind.i64 ↑N, Value.slice (some ⟨bm, om, none⟩) N cM, Value.int IntKind.i64 ↑N, Value.bool false, Value.bool false, Value.slice (some ⟨bm, om, none⟩) N cM, Value.int IntKind.i64 ↑N, Value.int IntKind.i64 ↑x, Value.bool true, Value.int IntKind.i64 ↑x, Value.pointer (some ⟨bm, om + x * 3, none⟩), Value.agg #[Value.int IntKind.i64 f.t, Value.int IntKind.i64 f.v, Value.int IntKind.i64 f.s], Value.slice (some ⟨bn, on, none⟩) N cN, Value.int IntKind.i64 ↑x, Value.pointer (some ⟨bn, on + x, none⟩), Value.int IntKind.i64 E, Value.pointer (some ⟨g39, 0, none⟩), Value.int IntKind.i64 f.t, Value.int IntKind.i64 (E - f.t), Value.agg #[Value.int IntKind.i64 (E - f.t), Value.int IntKind.i64 1], Value.agg #[Value.int IntKind.i64 (144 * k + d), Value.int IntKind.i64 1], Value.int IntKind.i64 kc, Value.bool false, Value.int IntKind.i64 ↑x, Value.int IntKind.i64 (↑x + 1), Value.int IntKind.i64 ↑(x + 1), Value.bool false, u195, u196, u197, u198, u199, u200, u201, u202, u203, u204, u205, u206, u207, u208, u209, u210, (bif b3 then .tuple #[.agg #[.int .i64 (mb + 72).num, .int .i64 ((mb + 72).den : Int)], .int .i64 0] else u211), (bif b0 then .agg #[.int .i64 mb.num, .int .i64 (mb.den : Int)] else u212), (bif b1 then .agg #[.int .i64 72, .int .i64 1] else u213), (bif b2 then .tuple #[.agg #[.int .i64 (mb + 72).num, .int .i64 ((mb + 72).den : Int)], .int .i64 0] else u214), (bif b4 then .agg #[.int .i64 (mb + 72).num, .int .i64 ((mb + 72).den : Int)] else u215), (bif b5 then .int .i64 0 else u216), u217, u218, u219, u220, u221, u222, u223, u224, u225, u226, undef], defers := [] } ∧ (b7 = true → b6 = true) ∧ Below W0.heap.size W0 W ∧ (b6 = true → W0.heap.size ≤ G6 ∧ G6 < W.heap.size ∧ (b7 = false → BoxN W G6 25 #[.int .i64 0, .int .i64 0]) ∧ (b7 = true → BoxN W G6 25 #[.int .i64 (mb + 72).num, .int .i64 ((mb + 72).den : Int)]))) (by kernel_rfl) (down_of (by decide +kernel)) ?start ?size ?done ?step
                  case start => exact ⟨false, false, false, false, false, false, false, false, false, 0, rfl, rfl, by simp, (Below.refl _ _).drew, by simp⟩
                  case size =>
                    rintro Lb aR W ⟨b0, b1, b2, b3, b4, b5, b6, b7, b8, G6, rfl, -⟩
                    rfl
                  case step =>
                    rintro Lb aR W i o ⟨b0, b1, b2, b3, b4, b5, b6, b7, b8, G6, rfl, rfl, p7, f0, f1⟩ ho hl' hdep
                    have hi' : i < 9 := (Array.getElem?_eq_some_iff.1 ho).1
                    have hi2 : i = 0 ∨ i = 1 ∨ i = 2 ∨ i = 3 ∨ i = 4 ∨ i = 5 ∨ i = 6 ∨ i = 7 ∨ i = 8 := by omega
                    clear hi'
                    replace p7 := Lib.hid p7
                    replace f0 := Lib.hid f0
                    replace f1 := Lib.hid f1
                    rcases hi2 with rfl | rfl | rfl | rfl | rfl | rfl | rfl | rfl | rfl
                    · cases ho
                      obtain rfl : b0 = false := hl'
                      clear hdep
                      have c0 := (f0.out.cell (lst)).trans d0
                      have c1 := (f0.out.cell (lst)).trans d1
                      refine wpOp_step rfl (fun K hK => ?_)
                      go_simp
                      refine hK _ _ ?_; clear hK K
                      exact ⟨true, b1, b2, b3, b4, b5, b6, b7, b8, G6, rfl, rfl, p7.out, f0.out, f1.out⟩
                    · cases ho
                      obtain rfl : b1 = false := hl'
                      clear hdep
                      refine wpOp_step rfl (fun K hK => ?_)
                      go_simp
                      (with_reducible refine (HN.out _ _ _).mono ?_); rintro e w4 ⟨rfl, hb⟩
                      refine hK _ _ ?_; clear hK K
                      exact ⟨b0, true, b2, b3, b4, b5, b6, b7, b8, G6, rfl, rfl, p7.out, f0.out.trans (hb.mono f0.out.size), fun h => ⟨(f1.out h).1, Nat.lt_of_lt_of_le (f1.out h).2.1 hb.size, fun e => ((f1.out h).2.2.1 e).below hb (f1.out h).2.1, fun e => ((f1.out h).2.2.2 e).below hb (f1.out h).2.1⟩⟩
                    · cases ho
                      obtain rfl : b2 = false := hl'
                      obtain rfl : b0 = true := hdep ⟨0, .data⟩ (by simp) rfl
                      obtain rfl : b1 = true := hdep ⟨1, .data⟩ (by simp) rfl
                      clear hdep
                      refine wpOp_step rfl (fun K hK => ?_)
                      simp only [cond_true]
                      go_simp
                      (with_reducible refine (HAd.out _).mono ?_); rintro e w4 ⟨rfl, hb⟩
                      refine hK _ _ ?_; clear hK K
                      exact ⟨true, true, true, b3, b4, b5, b6, b7, b8, G6, rfl, rfl, p7.out, f0.out.trans (hb.mono f0.out.size), fun h => ⟨(f1.out h).1, Nat.lt_of_lt_of_le (f1.out h).2.1 hb.size, fun e => ((f1.out h).2.2.1 e).below hb (f1.out h).2.1, fun e => ((f1.out h).2.2.2 e).below hb (f1.out h).2.1⟩⟩
                    · cases ho
                      obtain rfl : b3 = false := hl'
                      obtain rfl : b2 = true := hdep ⟨2, .data⟩ (by simp) rfl
                      clear hdep
                      refine wpOp_step rfl (fun K hK => ?_)
                      simp only [cond_true]
                      go_simp
                      refine hK _ _ ?_; clear hK K
                      exact ⟨b0, b1, true, true, b4, b5, b6, b7, b8, G6, rfl, rfl, p7.out, f0.out, f1.out⟩
                    · cases ho
                      obtain rfl : b4 = false := hl'
                      obtain rfl : b3 = true := hdep ⟨3, .data⟩ (by simp) rfl
                      clear hdep
                      refine wpOp_step rfl (fun K hK => ?_)
                      simp only [cond_true]
                      go_simp
                      refine hK _ _ ?_; clear hK K
                      exact ⟨b0, b1, b2, true, true, b5, b6, b7, b8, G6, rfl, rfl, p7.out, f0.out, f1.out⟩
                    · cases ho
                      obtain rfl : b5 = false := hl'
                      obtain rfl : b3 = true := hdep ⟨3, .data⟩ (by simp) rfl
                      clear hdep
                      refine wpOp_step rfl (fun K hK => ?_)
                      simp only [cond_true]
                      go_simp
                      refine hK _ _ ?_; clear hK K
                      exact ⟨b0, b1, b2, true, b4, true, b6, b7, b8, G6, rfl, rfl, p7.out, f0.out, f1.out⟩
                    · cases ho
                      obtain rfl : b6 = false := hl'
                      clear hdep
                      obtain rfl : b7 = false := by cases b7 with | false => rfl | true => exact absurd (p7.out rfl) (by simp)
                      refine wpOp_step rfl (fun K hK => ?_)
                      go_simp
                      refine hK _ _ ?_; clear hK K
                      exact ⟨b0, b1, b2, b3, b4, b5, true, false, b8, W.heap.size, rfl, rfl, by simp, f0.out.alloc f0.out.size _, fun _ => ⟨f0.out.size, by simp, fun _ => BoxN.new W 25 #[.int .i64 0, .int .i64 0], by simp⟩⟩
                    · cases ho
                      obtain rfl : b7 = false := hl'
                      obtain rfl : b6 = true := hdep ⟨6, .data⟩ (by simp) rfl
                      obtain rfl : b4 = true := hdep ⟨4, .data⟩ (by simp) rfl
                      clear hdep
                      obtain ⟨hle, hlt, hbz, -⟩ := f1.out rfl
                      have bS := hbz rfl
                      clear hbz
                      have z0 := bS.cell 0
                      have y0 := bS.frozen 0
                      have z1 := bS.cell 1
                      have y1 := bS.frozen 1
                      refine wpOp_step rfl (fun K hK => ?_)
                      simp only [cond_true]
                      go_simp
                      refine hK _ _ ?_; clear hK K
                      exact ⟨b0, b1, b2, b3, true, b5, true, true, b8, G6, rfl, rfl, by simp, ((f0.out.setCell (p := ⟨G6, 0, none⟩) hle (.int .i64 (mb + 72).num)).setCell (p := ⟨G6, 1, none⟩) hle (.int .i64 ((mb + 72).den : Int))), fun _ => ⟨hle, by simpa using hlt, by simp, fun _ => bS.set2 (.int .i64 (mb + 72).num) (.int .i64 ((mb + 72).den : Int))⟩⟩
                    · cases ho
                      obtain rfl : b8 = false := hl'
                      obtain rfl : b5 = true := hdep ⟨5, .data⟩ (by simp) rfl
                      clear hdep
                      refine wpOp_step rfl (fun K hK => ?_)
                      simp only [cond_true]
                      go_simp
                      refine hK _ _ ?_; clear hK K
                      exact ⟨b0, b1, b2, b3, b4, true, b6, b7, true, G6, rfl, rfl, p7.out, f0.out, f1.out⟩
                  case done =>
                    rintro Lb aR W ⟨j0, j1, j2, j3, j4, j5, j6, j7, j8, G6, rfl, rfl, -, f0, f1⟩ hall
                    obtain rfl : j0 = true := hall 0 (by decide)
                    obtain rfl : j1 = true := hall 1 (by decide)
                    obtain rfl : j2 = true := hall 2 (by decide)
                    obtain rfl : j3 = true := hall 3 (by decide)
                    obtain rfl : j4 = true := hall 4 (by decide)
                    obtain rfl : j5 = true := hall 5 (by decide)
                    obtain rfl : j6 = true := hall 6 (by decide)
                    obtain rfl : j7 = true := hall 7 (by decide)
                    obtain rfl : j8 = true := hall 8 (by decide)
                    clear hall
                    obtain ⟨-, -, -, hb42⟩ := f1 rfl
                    replace hb42 := hb42 rfl
                    have HB42 := Lib.hid (HBz.out.trans (f0.mono HBz.out.size))
                    replace K := (K.keep f0).add (cl_isR G6 _ _) ⟨hb42.lt, hb42.cell 0, hb42.cell 1⟩
                    clear f0 f1 hb42 d0 d1 lst
                    simp only [cond_true]
                    go_wp2_with fail
                    have hmb0 : 0 ≤ mb := by
                      have := Rat.mul_nonneg (Rat.add_nonneg (fl_h gg).2.2 (fl_h gh).2.2) pd
                      grind
                    have hok := held_ok gg gh (by omega) hd.1 hc two hf hmb hmb0
                    rw [hH] at hok
                    have hc2 := cmpQ_le.2 hok
                    have HC2 : Hid (∀ W : World, Calls Tryz.prog 44 #[.agg #[.int .i64 H, .int .i64 1], .agg #[.int .i64 (mb + 72).num, .int .i64 ((mb + 72).den : Int)]] W fun e w' => e = .returned (.int .i64 (cmpQ (H : Rat) (mb + 72))) ∧ Below W.heap.size W w') := fun W => (cmp_r (int_fit (z := H) (by omega)) fm72 W).mono fun e w' ⟨a, b⟩ => ⟨a, b.b⟩
                    generalize cmpQ (H : Rat) (mb + 72) = kd at HC2 hc2
                    have hkd2 : decide (0 < kd) = false := decide_eq_false (by omega)
                    have t0 := (K.get 0 rfl).c0
                    have t1 := (K.get 0 rfl).c1
                    have lt6 := (K.get 0 rfl).lt
                    have HB43 := Lib.hid (hBx3.out.trans (HB42.out.mono hBx3.out.size))
                    clear K hok hmb0 HB42
                    obtain ⟨Y3, hY3⟩ : ∃ Y, Y = W := ⟨_, rfl⟩
                    obtain ⟨g42, hg42⟩ : ∃ g, g = G6 := ⟨_, rfl⟩
                    subst hY3 hg42
                    refine wp_region_inv (Inv := fun Lb a W => ∃ (b0 b1 b2 b3 b4 b5 b6 b7 b8 : Bool) (Gx : Nat), Lb = #[b0, b1, b2, b3, b4, b5, b6, b7, b8] ∧ a = { tmps := #[Value.slice A0 ms.length q0, Value.slice A1 ns.length q1, Value.slice A2 ps.length q2, Value.slice A3 qs.length q3, Value.int IntKind.u16 g, Value.int IntKind.u16 h, Value.int IntKind.u8 s, Value.int IntKind.u8 d, undef, undef, undef, undef, undef, undef, undef, undef, u16, Value.int IntKind.i64 GP, Value.int IntKind.i64 HP, Value.int IntKind.i64 k, Value.slice Aa n1 ca, Value.slice Ab n2 cb, Value.slice GL 2 cL, undef, u24, u25, u26, u27, u28, u29, Value.pointer (some ⟨X2.heap.size, 0, none⟩), Value.slice (some ⟨bm, om, none⟩) N cM, Value.slice (some ⟨bn, on, none⟩) N cN, Value.int IntKind.i64 0, Value.pointer (some ⟨gbd, 0, none⟩), Value.int IntKind.i64 0, Value.pointer (some ⟨gst, 0, none⟩), Value.int IntKind.i64 0, Value.int IntKind.i64 ↑x, Value.pointer (some ⟨g39, 0, none⟩), Value.int IntKind.i64 H, u41, .pointer (some ⟨g42, 0, none⟩), .int .i64 0, Value.int IntKind.u16 g, Value.int IntKind.i64 g, Value.int IntKind.i64 (g % 501), Value.int IntKind.i64 GP, Value.int IntKind.u16 h, Value.int IntKind.i64 h, Value.int IntKind.i64 (h % 501), Value.int IntKind.i64 HP, Value.int IntKind.u8 s, Value.int IntKind.i64 s, Value.int IntKind.i64 (s % 2), Value.int IntKind.i64 k, Value.slice A0 ms.length q0, Value.slice A2 ps.length q2, Value.int IntKind.i64 GP, Value.slice Aa n1 ca, Value.slice A1 ns.length q1, Value.slice A3 qs.length q3, Value.int IntKind.i64 HP, Value.slice Ab n2 cb, Value.slice Aa n1 ca, Value.int IntKind.i64 GP, Value.agg #[Value.slice Aa n1 ca, Value.int IntKind.i64 GP], Value.slice Ab n2 cb, Value.int IntKind.i64 HP, Value.agg #[Value.slice Ab n2 cb, Value.int IntKind.i64 HP], Value.slice (some ⟨gE, 0, none⟩) 2 2, Value.int IntKind.i64 2, Value.int IntKind.i64 2, Value.bool false, u74, u75, u76, u77, u78, u79, u80, u81, u82, u83, u84, u85, u86, u87, u88, u89, u90, u91, u92, u93, u94, u95, u96, u97, u98, u99, u100, u101, u102, u103, u104, u105, u106, u107, Value.int IntKind.i64 k, Value.agg #[Value.int IntKind.i64 1, Value.int IntKind.i64 k], Value.int IntKind.u8 d, Value.int IntKind.i64 d, Value.agg #[Value.int IntKind.i64 d, Value.int IntKind.i64 1], Value.agg #[Value.int IntKind.i64 1, Value.int IntKind.i64 k, Value.int IntKind.i64 d, Value.int IntKind.i64 1], Value.slice Aa n1 ca, Value.slice Ab n2 cb, Value.slice (some ⟨bm, om, none⟩) N cM, Value.tuple #[Value.slice (some ⟨bn, on, none⟩) N cN, Value.int IntKind.i64 0], Value.slice (some ⟨bm, om, none⟩) N cM, Value.int IntKind.i64 k, Value.int IntKind.u8 d, Value.int IntKind.i64 d, Value.tuple #[Value.slice (some ⟨bn, on, none⟩) N cN, Value.int IntKind.i64 0], Value.slice (some ⟨bn, on, none⟩) N cN, Value.int IntKind.i64 0, Value.tuple #[Value.agg #[Value.int IntKind.i64 (144 * k + d), Value.int IntKind.i64 1], Value.int IntKind.i64 0], Value.slice GL 2 cL, Value.agg #[Value.int IntKind.i64 1, Value.int IntKind.i64 k, Value.int IntKind.i64 d, Value.int IntKind.i64 1], Value.tuple #[Value.agg #[Value.int IntKind.i64 (144 * k + d), Value.int IntKind.i64 1], Value.int IntKind.i64 0], Value.agg #[Value.int IntKind.i64 (144 * k + d), Value.int IntKind.i64 1], Value.int IntKind.i64 0, Value.tuple #[Value.agg #[Value.int IntKind.i64 mb.num, Value.int IntKind.i64 ↑mb.den], Value.int IntKind.i64 0], Value.slice GL 2 cL, Value.agg #[Value.int IntKind.i64 1, Value.int IntKind.i64 k, Value.int IntKind.i64 d, Value.int IntKind.i64 1], Value.tuple #[Value.agg #[Value.int IntKind.i64 mb.num, Value.int IntKind.i64 ↑mb.den], Value.int IntKind.i64 0], Value.agg #[Value.int IntKind.i64 mb.num, Value.int IntKind.i64 ↑mb.den], Value.int IntKind.i64 0, Value.int IntKind.i64 0, Value.bool false, undef, undef, undef, undef, undef, undef, undef, undef, undef, undef, undef, undef, undef, undef, undef, undef, undef, Value.int IntKind.i64 0, Value.bool false, Value.bool false, Value.int IntKind.i64 0, Value.bool false, Value.bool false, Value.bool false, Value.int IntKind.i64 0, Value.bool false, Value.bool false, Value.bool false, Value.slice (some ⟨bn, on, none⟩) N cN, Value.int IntKind.i64 ↑N, Value.slice (some ⟨bm, om, none⟩) N cM, Value.int IntKind.i64 ↑N, Value.bool false, Value.bool false, Value.slice (some ⟨bm, om, none⟩) N cM, Value.int IntKind.i64 ↑N, Value.int IntKind.i64 ↑x, Value.bool true, Value.int IntKind.i64 ↑x, Value.pointer (some ⟨bm, om + x * 3, none⟩), Value.agg #[Value.int IntKind.i64 f.t, Value.int IntKind.i64 f.v, Value.int IntKind.i64 f.s], Value.slice (some ⟨bn, on, none⟩) N cN, Value.int IntKind.i64 ↑x, Value.pointer (some ⟨bn, on + x, none⟩), Value.int IntKind.i64 E, Value.pointer (some ⟨g39, 0, none⟩), Value.int IntKind.i64 f.t, Value.int IntKind.i64 (E - f.t), Value.agg #[Value.int IntKind.i64 (E - f.t), Value.int IntKind.i64 1], Value.agg #[Value.int IntKind.i64 (144 * k + d), Value.int IntKind.i64 1], Value.int IntKind.i64 kc, Value.bool false, Value.int IntKind.i64 ↑x, Value.int IntKind.i64 (↑x + 1), Value.int IntKind.i64 ↑(x + 1), Value.bool false, u195, u196, u197, u198, u199, u200, u201, u202, u203, u204, u205, u206, u207, u208, u209, u210, .tuple #[.agg #[.int .i64 (mb + 72).num, .int .i64 ((mb + 72).den : Int)], .int .i64 0], .agg #[.int .i64 mb.num, .int .i64 (mb.den : Int)], .agg #[.int .i64 72, .int .i64 1], .tuple #[.agg #[.int .i64 (mb + 72).num, .int .i64 ((mb + 72).den : Int)], .int .i64 0], .agg #[.int .i64 (mb + 72).num, .int .i64 ((mb + 72).den : Int)], .int .i64 0, (bif b0 then .int .i64 0 else u217), (bif b1 then .bool false else u218), (bif b2 then .bool false else u219), (bif b3 then .int .i64 H else u220), (bif b4 then .agg #[.int .i64 H, .int .i64 1] else u221), (bif b5 then .agg #[.int .i64 (mb + 72).num, .int .i64 ((mb + 72).den : Int)] else u222), (bif b6 then .int .i64 kd else u223), (bif b7 then .bool false else u224), (bif b8 then .bool false else u225), u226, undef], defers := [] } ∧ Below Y3.heap.size Y3 W) (by kernel_rfl) (down_of (by decide +kernel)) ?start ?size ?done ?step
                    case start => exact ⟨false, false, false, false, false, false, false, false, false, 0, rfl, rfl, (Below.refl _ _).drew⟩
                    case size =>
                      rintro Lb aR W ⟨b0, b1, b2, b3, b4, b5, b6, b7, b8, Gx, rfl, -⟩
                      rfl
                    case step =>
                      rintro Lb aR W i o ⟨b0, b1, b2, b3, b4, b5, b6, b7, b8, Gx, rfl, rfl, f0⟩ ho hl' hdep
                      have hi' : i < 9 := (Array.getElem?_eq_some_iff.1 ho).1
                      have hi2 : i = 0 ∨ i = 1 ∨ i = 2 ∨ i = 3 ∨ i = 4 ∨ i = 5 ∨ i = 6 ∨ i = 7 ∨ i = 8 := by omega
                      clear hi'
                      replace f0 := Lib.hid f0
                      rcases hi2 with rfl | rfl | rfl | rfl | rfl | rfl | rfl | rfl | rfl
                      · cases ho
                        obtain rfl : b0 = false := hl'
                        clear hdep
                        refine wpOp_step rfl (fun K hK => ?_)
                        go_simp
                        refine hK _ _ ?_; clear hK K
                        exact ⟨true, b1, b2, b3, b4, b5, b6, b7, b8, Gx, rfl, rfl, f0.out⟩
                      · cases ho
                        obtain rfl : b1 = false := hl'
                        obtain rfl : b0 = true := hdep ⟨0, .data⟩ (by simp) rfl
                        clear hdep
                        refine wpOp_step rfl (fun K hK => ?_)
                        simp only [cond_true]
                        go_simp
                        refine hK _ _ ?_; clear hK K
                        exact ⟨true, true, b2, b3, b4, b5, b6, b7, b8, Gx, rfl, rfl, f0.out⟩
                      · cases ho
                        obtain rfl : b2 = false := hl'
                        obtain rfl : b1 = true := hdep ⟨1, .data⟩ (by simp) rfl
                        clear hdep
                        refine wpOp_step rfl (fun K hK => ?_)
                        simp only [cond_true]
                        go_simp
                        refine hK _ _ ?_; clear hK K
                        exact ⟨b0, true, true, b3, b4, b5, b6, b7, b8, Gx, rfl, rfl, f0.out⟩
                      · cases ho
                        obtain rfl : b3 = false := hl'
                        obtain rfl : b2 = true := hdep ⟨2, .guard⟩ (by simp) rfl
                        clear hdep
                        refine wpOp_step rfl (fun K hK => ?_)
                        simp only [cond_true]
                        go_simp
                        refine hK _ _ ?_; clear hK K
                        exact ⟨b0, b1, true, true, b4, b5, b6, b7, b8, Gx, rfl, rfl, f0.out⟩
                      · cases ho
                        obtain rfl : b4 = false := hl'
                        obtain rfl : b3 = true := hdep ⟨3, .data⟩ (by simp) rfl
                        obtain rfl : b2 = true := hdep ⟨2, .guard⟩ (by simp) rfl
                        clear hdep
                        refine wpOp_step rfl (fun K hK => ?_)
                        simp only [cond_true]
                        go_simp
                        (with_reducible refine (HN.out _ _ _).mono ?_); rintro e w4 ⟨rfl, hb⟩
                        refine hK _ _ ?_; clear hK K
                        exact ⟨b0, b1, true, true, true, b5, b6, b7, b8, Gx, rfl, rfl, f0.out.trans (hb.mono f0.out.size)⟩
                      · cases ho
                        obtain rfl : b5 = false := hl'
                        obtain rfl : b2 = true := hdep ⟨2, .guard⟩ (by simp) rfl
                        clear hdep
                        have c0 := (f0.out.cell (lt6)).trans t0
                        have c1 := (f0.out.cell (lt6)).trans t1
                        refine wpOp_step rfl (fun K hK => ?_)
                        simp only [cond_true]
                        go_simp
                        refine hK _ _ ?_; clear hK K
                        exact ⟨b0, b1, true, b3, b4, true, b6, b7, b8, Gx, rfl, rfl, f0.out⟩
                      · cases ho
                        obtain rfl : b6 = false := hl'
                        obtain rfl : b4 = true := hdep ⟨4, .data⟩ (by simp) rfl
                        obtain rfl : b5 = true := hdep ⟨5, .data⟩ (by simp) rfl
                        obtain rfl : b2 = true := hdep ⟨2, .guard⟩ (by simp) rfl
                        clear hdep
                        refine wpOp_step rfl (fun K hK => ?_)
                        simp only [cond_true]
                        go_simp
                        (with_reducible refine (HC2.out _).mono ?_); rintro e w4 ⟨rfl, hb⟩
                        refine hK _ _ ?_; clear hK K
                        exact ⟨b0, b1, true, b3, true, true, true, b7, b8, Gx, rfl, rfl, f0.out.trans (hb.mono f0.out.size)⟩
                      · cases ho
                        obtain rfl : b7 = false := hl'
                        obtain rfl : b6 = true := hdep ⟨6, .data⟩ (by simp) rfl
                        obtain rfl : b2 = true := hdep ⟨2, .guard⟩ (by simp) rfl
                        clear hdep
                        refine wpOp_step rfl (fun K hK => ?_)
                        simp only [cond_true]
                        go_simp
                        refine hK _ _ ?_; clear hK K
                        exact ⟨b0, b1, true, b3, b4, b5, true, true, b8, Gx, rfl, rfl, f0.out⟩
                      · cases ho
                        obtain rfl : b8 = false := hl'
                        obtain rfl : b2 = true := hdep ⟨2, .data⟩ (by simp) rfl
                        obtain rfl : b7 = true := hdep ⟨7, .data⟩ (by simp) rfl
                        clear hdep
                        refine wpOp_step rfl (fun K hK => ?_)
                        simp only [cond_true]
                        go_simp
                        refine hK _ _ ?_; clear hK K
                        exact ⟨b0, b1, true, b3, b4, b5, b6, true, true, Gx, rfl, rfl, f0.out⟩
                    case done =>
                      rintro Lb aR W ⟨j0, j1, j2, j3, j4, j5, j6, j7, j8, Gx, rfl, rfl, f0⟩ hall
                      obtain rfl : j0 = true := hall 0 (by decide)
                      obtain rfl : j1 = true := hall 1 (by decide)
                      obtain rfl : j2 = true := hall 2 (by decide)
                      obtain rfl : j3 = true := hall 3 (by decide)
                      obtain rfl : j4 = true := hall 4 (by decide)
                      obtain rfl : j5 = true := hall 5 (by decide)
                      obtain rfl : j6 = true := hall 6 (by decide)
                      obtain rfl : j7 = true := hall 7 (by decide)
                      obtain rfl : j8 = true := hall 8 (by decide)
                      clear hall
                      have hBe := Lib.hid (HB43.out.trans (f0.mono HB43.out.size))
                      clear f0 t0 t1
                      simp only [cond_true]
                      go_wp2_with fail
                      go_roundw
                      case rel => exact ⟨x + 1, by omega, by go_num, hBe.out⟩
                      case measure => simp [intOf]; omega

          · obtain rfl : x = N := by omega
            have hB := Lib.hid (KE.out.b.trans ((KL.out.b.mono KE.out.b.size).trans (HBx.out.mono (Nat.le_trans KE.out.b.size KL.out.b.size))))
            clear K
            go_wp2_with fail
            (with_reducible refine (HW.out _).mono ?_); rintro _ Z ⟨rfl, hb⟩
            have hB9 := Lib.hid (hB.out.trans (hb.mono hB.out.size))
            clear hb
            go_wp2
            go_ret
            exact ⟨rfl, hB9.out⟩
end Go.Proofs.YtbncfknjgldcbaaGreat.DlLaw
