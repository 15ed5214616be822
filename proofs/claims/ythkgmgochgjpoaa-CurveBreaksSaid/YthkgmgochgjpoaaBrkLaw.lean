/- CurveBreaks returns true. -/
import Derived.Test.YthkgmgochgjpoaaSg
import Derived.Test.YthkgmgochgjpoaaAwake
import Derived.Test.YthkgmgochgjpoaaBrkMath
import Derived.BigGuardPart
import Derived.Deep.RegionWith
import Derived.Deep.DeepCutAuto
import Derived.IntWalk
namespace Go.Proofs.Ythkgmgochgjpoaa.BrkLaw
open Go.RowKit Go.Joins Go.Shelf Go.Sort Num

theorem no_snoc {l : List Pt} {k : Nat} {b : Pt} {x y : Rat} (h : ∀ p ∈ l.take k, ¬ (x < p.q ∧ p.q < y)) (hb : l[k]? = some b) (hn : ¬ (x < b.q ∧ b.q < y)) : ∀ p ∈ l.take (k + 1), ¬ (x < p.q ∧ p.q < y) := fun p hp => by
  rw [take_succ' hb] at hp
  rcases List.mem_append.1 hp with hp | hp
  · exact h p hp
  · simp only [List.mem_singleton] at hp; subst hp; exact hn
theorem _root_.Go.Proofs.Ythkgmgochgjpoaa.Kept.tl {w W : World} {P : World → Prop} {l : List (World → Prop)} (k : Kept w (P :: l) W) : Kept w l W := ⟨k.b, fun Q hQ => k.h Q (List.mem_cons_of_mem _ hQ)⟩
theorem gd_half {D K : Nat} {r : Rat} (h : Gd D K r) : Gd (D * 2) (K * 1) (r / 2) := by
  have e : r / 2 = r * Rat.divInt 1 (2 : Nat) := by rw [Rat.div_def]; congr 1; decide +kernel
  rw [e]
  exact gd_mul h ⟨1, by decide, rfl⟩
theorem half_yes {r : Rat} (hr : Fit r) (h : Fit (r / 2)) (w : World) : Calls Try.prog 23 #[.agg #[.int .i64 r.num, .int .i64 r.den], .agg #[.int .i64 2, .int .i64 1]] w fun e w' => e = .returned (.tuple #[.agg #[.int .i64 (r / 2).num, .int .i64 (r / 2).den], .int .i64 0]) ∧ Below w.heap.size w w' := by
  have := div_yes (s := 2) hr (by constructor <;> decide) (by decide) h w
  rwa [show (2 : Rat).num = 2 from rfl, show ((2 : Rat).den : Int) = 1 from rfl] at this
theorem sm_val8 {x : Buck} (h : Sm x) {t : Rat} {K : Nat} (ht : Gd 8 K t) : Gd 64 (40 * K) (x.r * t) ∧ Gd 64 (6400 + 40 * K) (valQ x t) :=
  ⟨gd_mul (D := 8) (E := 8) h.r ht, gd_add (gd_scale (D := 1) 64 (by decide) h.b) (gd_mul (D := 8) (E := 8) h.r ht)⟩

set_option maxRecDepth 100000 in
set_option maxHeartbeats 8000000 in
theorem walk (A : Option Addr) (cap : Nat) (zs : List Int) (n m : Int) (w : World) (hz : Nums w A zs) (hn0 : 0 ≤ n) (hn1 : n ≤ 65535) (hm0 : 0 ≤ m) (hm1 : m ≤ 65535) :
    Calls Try.prog 6 #[.slice A zs.length cap, .int .u16 n, .int .u16 m] w fun e w' => e = .returned (.bool true) ∧ Below w.heap.size w w' := by
  have HS := small_yes A cap zs w w hz (Below.refl _ _)
  have HP : Hid (∀ W : World, _) := fun W => point_any n hn0 hn1 W
  have HQ : Hid (∀ W : World, _) := fun W => point_any m hm0 hm1 W
  have HW : Hid (∀ W : World, _) := fun W => Aw.walk W
  have gx := ptQ_gd n
  have gy := ptQ_gd m
  have px := ptQ_nonneg n
  have py := ptQ_nonneg m
  have hc := small_ne zs
  have hsm := small_sm zs
  have hl1 := (small_len zs).1
  have hl4 := (small_len zs).2
  clear hz hn0 hn1 hm0 hm1
  generalize small zs = c at HS hc hsm hl1 hl4
  generalize ptQ n = x at HP gx px
  generalize ptQ m = y at HQ gy py
  have hl2 : c.length ≤ 32 := by omega
  have fx : Fit x := gd_fit gx (by decide) (by decide) (by decide)
  have fy : Fit y := gd_fit gy (by decide) (by decide) (by decide)
  have hnf := normL_nf c
  have hsN : ∀ z ∈ normL c, Sm z := fun z hz => hsm z (hnf.s z hz)
  have hok := sm_okm hnf.o hsN
  have hne := normL_ne hc
  obtain ⟨hpw, hmem⟩ := brk_spec (normL c)
  have hpos : ∀ p ∈ brkL (normL c), 0 < p.q := fun p hp => by
    obtain ⟨t, ht, rfl⟩ := List.mem_map.1 ((hmem p).1 hp)
    rw [meetP_q (hok t ht)]
    exact meet_pos (twosL_mem hnf.o t ht)
  have hlin : ∀ x y m : Rat, 0 ≤ x → x ≤ y → 0 ≤ m → m + m = x + y → (∀ p ∈ brkL (normL c), ¬ (x < p.q ∧ p.q < y)) → minV c m + minV c m = minV c x + minV c y := fun x y m h0 hxy hm0 hm hno => by
    have := linear hne hnf.o hxy hm (fun t ht => by
      have h := hno (meetP t) ((hmem _).2 (List.mem_map.2 ⟨t, ht, rfl⟩))
      rwa [meetP_q (hok t ht)] at h)
    rwa [minV_norm hc hm0, minV_norm hc h0, minV_norm hc (Rat.le_trans h0 hxy)] at this
  have hll : (brkL (normL c)).length ≤ 16 := by
    have h1 := compL_len (sortP ((twosL (normL c)).map meetP))
    rw [sortP_length, List.length_map] at h1
    have h2 := twosL_length (normL c)
    have h3 : (normL c).length ≤ 4 := Nat.le_trans (normL_len c) hl4
    have h4 := Nat.mul_le_mul h3 h3
    show (compL (sortP ((twosL (normL c)).map meetP))).length ≤ 16
    omega
  have HB : Hid (∀ (A : Option Addr) (ca : Nat) (W : World), isC A ca c W → _) := fun A ca W hi => breaks_yes _ hi hl1 hl2 rfl hok rfl rfl _ rfl
  clear hmem hok hsN hnf hne
  generalize brkL (normL c) = l at HB hpw hpos hlin hll
  replace hlin := Lib.hid hlin
  replace hpw := Lib.hid hpw
  replace hpos := Lib.hid hpos
  have HC0 : Hid (∀ W : World, _) := fun W => cmp_r fy fx W
  have hcmp : Hid (cmpQ y x < 0 ↔ y < x) := cmpQ_neg
  generalize cmpQ y x = k0 at HC0 hcmp
  have HN : Hid (∀ (n d : Int) (W : World), _) := fun n d W => num_any n d W
  have K := Kept.start w
  go_enter Try.func6, Try.ntmps6
  go_wp2_with fail
  (with_reducible refine HS.mono ?_); rintro e U1 ⟨Ac, cc, rfl, hi, hb⟩
  replace K := (K.keep hb).add (cl_isC Ac cc c) hi
  clear hi hb HS
  have hN := HB.out _ _ _ (K.get 0 rfl)
  go_wp2_with fail
  (with_reducible refine hN.mono ?_); rintro e U2 ⟨Al, cl, rfl, hi, hb⟩
  replace K := (K.keep hb).add (cl_isP Al l) hi
  clear hi hb hN HB
  go_wp2_with fail
  (with_reducible refine (HP.out _).mono ?_); rintro e U3 ⟨rfl, hb⟩
  replace K := K.keep hb
  clear hb
  go_wp2_with fail
  (with_reducible refine (HQ.out _).mono ?_); rintro e U ⟨rfl, hb⟩
  replace K := K.keep hb
  clear hb HP HQ
  have K0 := K
  replace K := K.box2 x.num x.den y.num y.den
  have y0 := (K.get 0 rfl).c0
  have y1 := (K.get 0 rfl).c1
  have x0 := (K.get 1 rfl).c0
  have x1 := (K.get 1 rfl).c1
  go_wp2_with fail
  (with_reducible refine (HC0.out _).mono ?_); rintro e Y ⟨rfl, hb⟩
  clear x0 x1 y0 y1 HC0
  by_cases hyx : y < x
  · have hk0 : k0 < 0 := hcmp.out.2 hyx
    have hle : y ≤ x := Rat.le_of_lt hyx
    clear hcmp hyx
    have B10 := ((BoxN.new U 28 #[.int .i64 x.num, .int .i64 x.den]).alloc (.cells #[.int .i64 y.num, .int .i64 y.den] 28)).below hb.b (by simp; omega)
    have B11 := (BoxN.new (U.alloc (.cells #[.int .i64 x.num, .int .i64 x.den] 28)) 28 #[.int .i64 y.num, .int .i64 y.den]).below hb.b (by simp)
    rw [World.size_alloc] at B11
    have hBY := (((Below.refl U.heap.size U).alloc (Nat.le_refl _) (.cells #[.int .i64 x.num, .int .i64 x.den] 28)).alloc (by simp) (.cells #[.int .i64 y.num, .int .i64 y.den] 28)).trans (hb.b.mono (by simp; omega))
    have hX := (((hBY.setCell (p := ⟨U.heap.size, 0, none⟩) (Nat.le_refl _) (.int .i64 y.num)).setCell (p := ⟨U.heap.size, 1, none⟩) (Nat.le_refl _) (.int .i64 y.den)).setCell (p := ⟨U.heap.size + 1, 0, none⟩) (Nat.le_succ _) (.int .i64 x.num)).setCell (p := ⟨U.heap.size + 1, 1, none⟩) (Nat.le_succ _) (.int .i64 x.den)
    have hne1 : U.heap.size ≠ U.heap.size + 1 := by omega
    have S10 := (((B10.set2 (.int .i64 y.num) (.int .i64 y.den)).far (p := ⟨U.heap.size + 1, 0, none⟩) hne1 (.int .i64 x.num)).far (p := ⟨U.heap.size + 1, 1, none⟩) hne1 (.int .i64 x.den))
    have S11 := (((B11.far (p := ⟨U.heap.size, 0, none⟩) (Ne.symm hne1) (.int .i64 y.num)).far (p := ⟨U.heap.size, 1, none⟩) (Ne.symm hne1) (.int .i64 y.den)).set2 (.int .i64 x.num) (.int .i64 x.den))
    have KX := ((K0.keep hX).add (cl_isR U.heap.size y.num y.den) ⟨S10.lt, S10.cell 0, S10.cell 1⟩).add (cl_isR (U.heap.size + 1) x.num x.den) ⟨S11.lt, S11.cell 0, S11.cell 1⟩
    have KX := Lib.hid KX
    have a0 := B10.cell 0
    have a1 := B10.cell 1
    have b0 := B11.cell 0
    have b1 := B11.cell 1
    have fa0 := B10.frozen 0
    have fa1 := B10.frozen 1
    have fb0 := B11.frozen 0
    have fb1 := B11.frozen 1
    have ka := B10.lt
    have kb := B11.lt
    clear K K0 hb B10 B11 hBY hX hne1 S10 S11

    have gs := gd_add gy gx
    have ps : 0 ≤ y + x := Rat.add_nonneg py px
    have fs : Fit (y + x) := gd_fit gs (by decide) (by decide) (by decide)
    have gm := gd_half gs
    have fm : Fit ((y + x) / 2) := gd_fit gm (by decide) (by decide) (by decide)
    have hmm : (y + x) / 2 + (y + x) / 2 = y + x := by grind
    have pm : 0 ≤ (y + x) / 2 := by grind
    have gva := sg_min hc (fun z hz => (hsm z hz).sg) gy
    have gvb := sg_min hc (fun z hz => (hsm z hz).sg) gx
    have gvm : Gd 64 (6400 + 40 * ((3999 + 3999) * 1)) (minV c ((y + x) / 2)) := by
      obtain ⟨z, hz, e⟩ := minV_at hc ((y + x) / 2)
      rw [e]; exact (sm_val8 (hsm z hz) gm).2
    have fva : Fit (minV c y) := gd_fit gva (by decide) (by decide) (by decide)
    have fvb : Fit (minV c x) := gd_fit gvb (by decide) (by decide) (by decide)
    have fvm : Fit (minV c ((y + x) / 2)) := gd_fit gvm (by decide) (by decide) (by decide)
    have HAdd : Hid (∀ W : World, _) := fun W => add_yes fy fx fs W
    have HDiv : Hid (∀ W : World, _) := fun W => half_yes fs fm W
    have HVa : Hid (∀ (A : Option Addr) (ca : Nat) (W : World), isC A ca c W → _) := fun A ca W hi => at_any y W hi hl1 hl2 fy py (fun z hz => sg_ok (hsm z hz).sg gy (by decide)) _ rfl
    have HVb : Hid (∀ (A : Option Addr) (ca : Nat) (W : World), isC A ca c W → _) := fun A ca W hi => at_any x W hi hl1 hl2 fx px (fun z hz => sg_ok (hsm z hz).sg gx (by decide)) _ rfl
    have HVm : Hid (∀ (A : Option Addr) (ca : Nat) (W : World), isC A ca c W → _) := fun A ca W hi => at_any ((y + x) / 2) W hi hl1 hl2 fm pm (fun z hz => ⟨gd_fit (sm_val8 (hsm z hz) gm).1 (by decide) (by decide) (by decide), gd_fit (sm_val8 (hsm z hz) gm).2 (by decide) (by decide) (by decide)⟩) _ rfl
    have HBoth : Hid (∀ W : World, _) := fun W => add_yes fva fvb (gd_fit (gd_add gva gvb) (by decide) (by decide) (by decide)) W
    have HTw : Hid (∀ W : World, _) := fun W => add_yes fvm fvm (gd_fit (gd_add gvm gvm) (by decide) (by decide) (by decide)) W
    have hL1 : Hid ((∀ p ∈ l, ¬ (y < p.q ∧ p.q < x)) → minV c ((y + x) / 2) + minV c ((y + x) / 2) = minV c y + minV c x) := fun h => hlin.out _ _ _ py hle pm hmm h
    have HCx : Hid (∀ (p : Pt) (W : World), _) := fun p W => cmp_r p.h fy W
    have HCy : Hid (∀ (p : Pt) (W : World), _) := fun p W => cmp_r p.h fx W
    have HCp : Hid (∀ (p q : Pt) (W : World), _) := fun p q W => (cmp_r p.h q.h W).mono (R' := fun e w' => e = .returned (.int .i64 (cmpQ p.q q.q)) ∧ Below W.heap.size W w') fun _ _ ⟨h, k⟩ => ⟨h, k.b⟩
    clear gs ps fs gm fm hmm pm gva gvb gvm fva fvb fvm gx gy px py fx fy hsm hl1 hl2 hl4 hlin hle
    generalize minV c y = va at HVa HBoth hL1
    generalize minV c x = vb at HVb HBoth hL1
    generalize minV c ((y + x) / 2) = vm at HVm HTw hL1
    generalize (y + x) / 2 = mid at HDiv HVm
    generalize y + x = s at HAdd HDiv
    go_wp2_with fail
    go_loopw [49] (fun i wr => ∃ k : Nat, k ≤ l.length ∧ i = .int .i64 ↑k ∧ (∀ p ∈ l.take k, ¬ (y < p.q ∧ p.q < x)) ∧ Kept w [isR (U.heap.size + 1) x.num x.den, isR U.heap.size y.num y.den, isP Al l, isC Ac cc c] wr)
      (fun i _ => l.length - (intOf i).toNat)
    case atStart => exact ⟨0, Nat.zero_le _, rfl, fun p hp => by simp at hp, KX.out⟩
    case round =>
      clear KX a0 a1 b0 b1 fa0 fa1 fb0 fb1 ka kb
      obtain ⟨k, hk, rfl, hno, K⟩ := hrel
      by_cases hlt : k < l.length
      · have hx : l[k]? = some l[k] := List.getElem?_eq_getElem hlt
        obtain ⟨b, hbe⟩ : ∃ b, l[k] = b := ⟨_, rfl⟩
        rw [hbe] at hx
        have hbm := List.mem_of_getElem? hx
        have hbp : 0 < b.q.num := by
          have h1 : 0 ≤ b.q.num := Rat.num_nonneg.2 (Rat.le_of_lt (hpos.out b hbm))
          have h2 : b.q.num ≠ 0 := fun e => by have := hpos.out b hbm; rw [Rat.num_eq_zero.1 e] at this; exact Rat.lt_irrefl this
          omega
        have Hx := Lib.hid hx
        have Hno := Lib.hid hno
        obtain ⟨g, e, hgl, hrow⟩ := (K.get 2 rfl : SlP wr Al l) (by intro h; rw [h] at hlt; simp at hlt)
        subst e
        obtain ⟨c0, c1⟩ := hrow k b hx
        simp only [Nat.zero_add] at c0 c1
        clear hx hbe hbm hno hrow
        go_wp2_with fail
        replace K := K.box b.q.num b.q.den
        clear c0 c1 hgl
        generalize wr.alloc (.cells #[.int .i64 b.q.num, .int .i64 b.q.den] 28) = wq at K ⊢
        generalize wr.heap.size = bb at K ⊢
        obtain ⟨hlb, e0, e1⟩ := (K.get 0 rfl : Has wq bb b.q.num b.q.den)
        have p0 := Gr.cell e0 hlb
        have p1 := Gr.cell e1 hlb
        haveI : Nonempty (Wd (Gr wq)) := ⟨⟨wq, Below.refl _ _⟩⟩
        have Haf : Hid (∀ s0 : Wd (Gr wq), Kept w (isR bb b.q.num b.q.den :: [isR (U.heap.size + 1) x.num x.den, isR U.heap.size y.num y.den, isP (some ⟨g, 0, none⟩) l, isC Ac cc c]) s0.val) := fun s0 => K.keep s0.ok
        have npos : ¬ (b.q.num ≤ 0) := by omega
        clear e0 e1
        by_cases hkp : 0 < k
        case' pos =>
          have z1 : 0 < (k : Int) := by omega
          obtain ⟨j, rfl⟩ : ∃ j, k = j + 1 := ⟨k - 1, by omega⟩
          have hy : l[j]? = some l[j] := List.getElem?_eq_getElem (by omega)
          obtain ⟨a, hae⟩ : ∃ a, l[j] = a := ⟨_, rfl⟩
          rw [hae] at hy
          have hab : a.q < b.q := by
            have hp := hpw.out
            rw [List.pairwise_iff_getElem] at hp
            have h1 := hp j (j + 1) (by omega) hlt (Nat.lt_succ_self j)
            rw [hae] at h1
            have h2 := Hx.out
            rw [List.getElem?_eq_getElem hlt] at h2
            rw [Option.some.inj h2] at h1
            exact h1
          obtain ⟨_, e, hgl, hrow⟩ := (K.get 3 rfl : SlP wq _ l) (by intro h; rw [h] at hlt; simp at hlt)
          cases e
          obtain ⟨a0, a1⟩ := hrow j a hy
          simp only [Nat.zero_add] at a0 a1
          have n0 := Gr.cell a0 hgl
          have n1 := Gr.cell a1 hgl
          have i1 : IntKind.i64.wrap (((j + 1 : Nat) : Int) - 1) = j := by rw [IntWalk.i64_in _ (by omega)]; omega
          have i2 : IntKind.i64.wrap ((j : Int) + 1 - 1) = j := by rw [IntWalk.i64_in _ (by omega)]; omega
          have i3 : ((j : Int) + 1 - 1) = j := by omega
          have r1 : ¬ (0 ≤ cmpQ a.q b.q) := by rw [Int.not_le]; exact cmpQ_neg.2 hab
          have HC1 := HCp.out a b
          generalize cmpQ a.q b.q = k1 at HC1 r1
          have HC1 := Lib.hid HC1
          clear hy hae hab a0 a1 hrow
          refine wp_region_cls (Gr wq) (by kernel_rfl) (by kernel_rfl) (Gr.start wq) ?_
          repeat (go_big_quiet_step ((go_at_call 17; (with_reducible exact Calls.cls Gr.close (HC1.out _)))))
          refine wpQuiet_nil ?_
          intro _ hw'
          obtain ⟨s0, rfl⟩ := hw'
          have K1 := Haf.out s0
          clear p0 p1 n0 n1 i1 i2 i3 r1 HC1 K
        case' neg =>
          have z1 : ¬ (0 < (k : Int)) := by omega
          refine wp_region_cls (Gr wq) (by kernel_rfl) (by kernel_rfl) (Gr.start wq) ?_
          repeat (go_big_quiet_step (fail))
          refine wpQuiet_nil ?_
          intro _ hw'
          obtain ⟨s0, rfl⟩ := hw'
          have K1 := Haf.out s0
          clear p0 p1 K
        all_goals
          generalize s0.val = v1 at K1 ⊢
          have HX1 := HCx.out b
          have HY1 := HCy.out b
          have q1 : Hid (0 < cmpQ b.q y ↔ y < b.q) := by
            unfold Hid cmpQ
            constructor
            · intro h
              by_cases h1 : b.q < y
              · rw [if_pos h1] at h; omega
              · rw [if_neg h1] at h
                by_cases h2 : y < b.q
                · exact h2
                · rw [if_neg h2] at h; omega
            · intro h; rw [if_neg (lt_asymm' h), if_pos h]; decide
          have q2 : Hid (cmpQ b.q x < 0 ↔ b.q < x) := cmpQ_neg
          generalize cmpQ b.q y = k1 at HX1 q1
          generalize cmpQ b.q x = k2 at HY1 q2
          have HX1 := Lib.hid HX1
          have HY1 := Lib.hid HY1
          have b0 := (K1.get 0 rfl).c0
          have b1 := (K1.get 0 rfl).c1
          have x0 := (K1.get 2 rfl).c0
          have x1 := (K1.get 2 rfl).c1
          go_wp2_with fail
          (with_reducible refine (HX1.out _).mono ?_); rintro e Z1 ⟨rfl, hb⟩
          replace K1 := K1.keep hb.b
          clear hb b0 b1 x0 x1
          by_cases h1 : 0 < k1
          · have b0 := (K1.get 0 rfl).c0
            have b1 := (K1.get 0 rfl).c1
            have y0 := (K1.get 1 rfl).c0
            have y1 := (K1.get 1 rfl).c1
            go_wp2_with fail
            (with_reducible refine (HY1.out _).mono ?_); rintro e Z2 ⟨rfl, hb⟩
            replace K1 := K1.keep hb.b
            clear hb b0 b1 y0 y1
            by_cases h2 : k2 < 0
            · go_wp2_with fail
              (with_reducible refine (HW.out _).mono ?_); rintro e Z3 ⟨rfl, hb⟩
              have hB := Lib.hid (K1.keep hb).b
              clear K1 hb
              go_wp2
              go_ret
              exact ⟨rfl, hB.out⟩
            · have hn : Hid (¬ (y < b.q ∧ b.q < x)) := fun h => h2 (q2.out.2 h.2)
              have K2 := Lib.hid K1.tl
              clear K1
              go_wp2_with fail
              go_roundw
              case rel => first | exact ⟨k + 1, by omega, by go_num, no_snoc Hno.out Hx.out hn.out, K2.out⟩ | exact ⟨j + 1 + 1, by omega, by go_num, no_snoc Hno.out Hx.out hn.out, K2.out⟩
              case measure => simp [intOf]; omega
          · have hn : Hid (¬ (y < b.q ∧ b.q < x)) := fun h => h1 (q1.out.2 h.1)
            have K2 := Lib.hid K1.tl
            clear K1
            go_wp2_with fail
            go_roundw
            case rel => first | exact ⟨k + 1, by omega, by go_num, no_snoc Hno.out Hx.out hn.out, K2.out⟩ | exact ⟨j + 1 + 1, by omega, by go_num, no_snoc Hno.out Hx.out hn.out, K2.out⟩
            case measure => simp [intOf]; omega
      · obtain rfl : k = l.length := by omega
        rw [List.take_length] at hno
        have hlin := hL1.out hno
        rw [hlin] at HTw
        clear hlin hL1 hno hk hlt
        generalize va + vb = both at HBoth HTw
        have y0 := (K.get 1 rfl).c0
        have y1 := (K.get 1 rfl).c1
        have x0 := (K.get 0 rfl).c0
        have x1 := (K.get 0 rfl).c1
        go_wp2_with fail
        (with_reducible refine (HAdd.out _).mono ?_); rintro e V1 ⟨rfl, hb⟩
        clear y0 y1 x0 x1
        replace K := (K.keep hb).box s.num s.den
        clear hb
        have s0 := (K.get 0 rfl).c0
        have s1 := (K.get 0 rfl).c1
        obtain ⟨L, hL, KL⟩ := K.pack
        have HAll : Hid (∀ W : World, Kept w L W → W.cell? ⟨V1.heap.size, 0, none⟩ = some (.int .i64 s.num) ∧ W.cell? ⟨V1.heap.size, 1, none⟩ = some (.int .i64 s.den) ∧ Kept w L W) := fun W k => ⟨by rw [hL.out] at k; exact (k.get 0 rfl).c0, by rw [hL.out] at k; exact (k.get 0 rfl).c1, k⟩
        clear s0 s1 K
        go_wp2_with fail
        generalize V1.alloc (.cells #[.int .i64 s.num, .int .i64 s.den] 28) = W1 at KL ⊢
        generalize V1.heap.size = bs at hL HAll ⊢
        obtain ⟨c0, c1, -⟩ := HAll.out _ KL
        have hbs : bs < W1.heap.size := by
          have := KL
          rw [hL.out] at this
          exact (this.get 0 rfl).lt
        have HK := Lib.hid KL
        clear KL HAll
        go_cut [16, 17] (fun s16 s17 wx => ∃ g : Nat, s16 = .pointer (some ⟨g, 0, none⟩) ∧ s17 = .int .i64 0 ∧ Kept w (isR g mid.num mid.den :: L) wx)
        case first =>
          go_region_with (first
            | (go_at_call 24; (with_reducible refine (HN.out _ _ _).mono ?_); rintro e v1 ⟨rfl, hbn'⟩; have hbn := hbn'.b; clear hbn'; obtain ⟨hcn, hfn⟩ := bcell hbn; have hzn := hbn.size; (try simp only [World.size_alloc, World.size_drew] at hcn); (try simp only [World.size_alloc, World.size_drew] at hfn); (try simp only [World.size_alloc, World.size_drew] at hzn); (try have hkn : W1.heap.size < v1.heap.size := by omega); (try have hkb : bs < v1.heap.size := by omega))
            | (go_at_call 23; (with_reducible refine (HDiv.out _).mono ?_); rintro e v2 ⟨rfl, hbd⟩; obtain ⟨hcd, hfd⟩ := bcell hbd; have hzd := hbd.size; (try simp only [World.size_alloc] at hcd); (try simp only [World.size_alloc] at hfd); (try simp only [World.size_alloc] at hzd); (try have hkd1 : W1.heap.size < v2.heap.size := by omega); (try have hkd2 : v1.heap.size < v2.heap.size := by omega)))
          all_goals
            go_wp2_with fail
            go_meet
            refine ⟨_, rfl, rfl, (HK.out.keep ?_).add (cl_isR _ mid.num mid.den) ⟨?_, ?_, ?_⟩⟩
            · repeat' (first
                | (with_reducible exact Below.refl _ _)
                | (with_reducible refine Below.setCell ?_ ?_ _)
                | (with_reducible refine Below.alloc ?_ ?_ _)
                | (with_reducible refine Below.drew ?_)
                | (with_reducible refine Below.trans ?_ (hbd.mono ?_))
                | (with_reducible refine Below.trans ?_ (hbn.mono ?_))
                | omega
                | (simp; done)
                | (simp; omega))
            · first | omega | (simp; done) | (simp; omega)
            · go_simp
            · go_simp
        case rest =>
          obtain ⟨g16, rfl, rfl, K⟩ := hcut
          rw [hL.out] at K
          clear hL HK c0 c1 hbs
          have y0 := (K.get 3 rfl).c0
          have y1 := (K.get 3 rfl).c1
          go_wp2_with fail
          (with_reducible refine (HVa.out _ _ _ (K.get 5 rfl)).mono ?_); rintro e V2 ⟨rfl, hb⟩
          clear y0 y1
          replace K := (K.keep hb).box va.num va.den
          clear hb
          have x0 := (K.get 3 rfl).c0
          have x1 := (K.get 3 rfl).c1
          go_wp2_with fail
          (with_reducible refine (HVb.out _ _ _ (K.get 6 rfl)).mono ?_); rintro e V3 ⟨rfl, hb⟩
          clear x0 x1
          replace K := (K.keep hb).box vb.num vb.den
          clear hb
          have mid0 := (K.get 2 rfl).c0
          have mid1 := (K.get 2 rfl).c1
          go_wp2_with fail
          (with_reducible refine (HVm.out _ _ _ (K.get 7 rfl)).mono ?_); rintro e V4 ⟨rfl, hb⟩
          clear mid0 mid1
          replace K := (K.keep hb).box vm.num vm.den
          clear hb
          have va0 := (K.get 2 rfl).c0
          have va1 := (K.get 2 rfl).c1
          have vb0 := (K.get 1 rfl).c0
          have vb1 := (K.get 1 rfl).c1
          go_wp2_with fail
          (with_reducible refine (HBoth.out _).mono ?_); rintro e V5 ⟨rfl, hb⟩
          clear va0 va1 vb0 vb1
          replace K := (K.keep hb).box both.num both.den
          clear hb
          have vm0 := (K.get 1 rfl).c0
          have vm1 := (K.get 1 rfl).c1
          go_wp2_with fail
          (with_reducible refine (HTw.out _).mono ?_); rintro e V6 ⟨rfl, hb⟩
          clear vm0 vm1
          replace K := (K.keep hb).box both.num both.den
          clear hb
          have tw0 := (K.get 0 rfl).c0
          have tw1 := (K.get 0 rfl).c1
          have both0 := (K.get 1 rfl).c0
          have both1 := (K.get 1 rfl).c1
          go_wp2_with fail
          (with_reducible refine (HW.out _).mono ?_); rintro e Z9 ⟨rfl, hb⟩
          have hB := Lib.hid (K.keep hb).b
          clear K hb
          go_wp2
          go_ret
          exact ⟨rfl, hB.out⟩
  · have hk0 : ¬ k0 < 0 := fun h => hyx (hcmp.out.1 h)
    have hle : x ≤ y := Rat.not_lt.1 hyx
    clear hcmp hyx
    replace K := K.keep hb.b
    clear K0 hb

    have gs := gd_add gx gy
    have ps : 0 ≤ x + y := Rat.add_nonneg px py
    have fs : Fit (x + y) := gd_fit gs (by decide) (by decide) (by decide)
    have gm := gd_half gs
    have fm : Fit ((x + y) / 2) := gd_fit gm (by decide) (by decide) (by decide)
    have hmm : (x + y) / 2 + (x + y) / 2 = x + y := by grind
    have pm : 0 ≤ (x + y) / 2 := by grind
    have gva := sg_min hc (fun z hz => (hsm z hz).sg) gx
    have gvb := sg_min hc (fun z hz => (hsm z hz).sg) gy
    have gvm : Gd 64 (6400 + 40 * ((3999 + 3999) * 1)) (minV c ((x + y) / 2)) := by
      obtain ⟨z, hz, e⟩ := minV_at hc ((x + y) / 2)
      rw [e]; exact (sm_val8 (hsm z hz) gm).2
    have fva : Fit (minV c x) := gd_fit gva (by decide) (by decide) (by decide)
    have fvb : Fit (minV c y) := gd_fit gvb (by decide) (by decide) (by decide)
    have fvm : Fit (minV c ((x + y) / 2)) := gd_fit gvm (by decide) (by decide) (by decide)
    have HAdd : Hid (∀ W : World, _) := fun W => add_yes fx fy fs W
    have HDiv : Hid (∀ W : World, _) := fun W => half_yes fs fm W
    have HVa : Hid (∀ (A : Option Addr) (ca : Nat) (W : World), isC A ca c W → _) := fun A ca W hi => at_any x W hi hl1 hl2 fx px (fun z hz => sg_ok (hsm z hz).sg gx (by decide)) _ rfl
    have HVb : Hid (∀ (A : Option Addr) (ca : Nat) (W : World), isC A ca c W → _) := fun A ca W hi => at_any y W hi hl1 hl2 fy py (fun z hz => sg_ok (hsm z hz).sg gy (by decide)) _ rfl
    have HVm : Hid (∀ (A : Option Addr) (ca : Nat) (W : World), isC A ca c W → _) := fun A ca W hi => at_any ((x + y) / 2) W hi hl1 hl2 fm pm (fun z hz => ⟨gd_fit (sm_val8 (hsm z hz) gm).1 (by decide) (by decide) (by decide), gd_fit (sm_val8 (hsm z hz) gm).2 (by decide) (by decide) (by decide)⟩) _ rfl
    have HBoth : Hid (∀ W : World, _) := fun W => add_yes fva fvb (gd_fit (gd_add gva gvb) (by decide) (by decide) (by decide)) W
    have HTw : Hid (∀ W : World, _) := fun W => add_yes fvm fvm (gd_fit (gd_add gvm gvm) (by decide) (by decide) (by decide)) W
    have hL1 : Hid ((∀ p ∈ l, ¬ (x < p.q ∧ p.q < y)) → minV c ((x + y) / 2) + minV c ((x + y) / 2) = minV c x + minV c y) := fun h => hlin.out _ _ _ px hle pm hmm h
    have HCx : Hid (∀ (p : Pt) (W : World), _) := fun p W => cmp_r p.h fx W
    have HCy : Hid (∀ (p : Pt) (W : World), _) := fun p W => cmp_r p.h fy W
    have HCp : Hid (∀ (p q : Pt) (W : World), _) := fun p q W => (cmp_r p.h q.h W).mono (R' := fun e w' => e = .returned (.int .i64 (cmpQ p.q q.q)) ∧ Below W.heap.size W w') fun _ _ ⟨h, k⟩ => ⟨h, k.b⟩
    clear gs ps fs gm fm hmm pm gva gvb gvm fva fvb fvm gx gy px py fx fy hsm hl1 hl2 hl4 hlin hle
    generalize minV c x = va at HVa HBoth hL1
    generalize minV c y = vb at HVb HBoth hL1
    generalize minV c ((x + y) / 2) = vm at HVm HTw hL1
    generalize (x + y) / 2 = mid at HDiv HVm
    generalize x + y = s at HAdd HDiv
    go_wp2_with fail
    go_loopw [49] (fun i wr => ∃ k : Nat, k ≤ l.length ∧ i = .int .i64 ↑k ∧ (∀ p ∈ l.take k, ¬ (x < p.q ∧ p.q < y)) ∧ Kept w [isR (U.heap.size + 1) y.num y.den, isR U.heap.size x.num x.den, isP Al l, isC Ac cc c] wr)
      (fun i _ => l.length - (intOf i).toNat)
    case atStart => exact ⟨0, Nat.zero_le _, rfl, fun p hp => by simp at hp, K⟩
    case round =>
      clear K
      obtain ⟨k, hk, rfl, hno, K⟩ := hrel
      by_cases hlt : k < l.length
      · have hx : l[k]? = some l[k] := List.getElem?_eq_getElem hlt
        obtain ⟨b, hbe⟩ : ∃ b, l[k] = b := ⟨_, rfl⟩
        rw [hbe] at hx
        have hbm := List.mem_of_getElem? hx
        have hbp : 0 < b.q.num := by
          have h1 : 0 ≤ b.q.num := Rat.num_nonneg.2 (Rat.le_of_lt (hpos.out b hbm))
          have h2 : b.q.num ≠ 0 := fun e => by have := hpos.out b hbm; rw [Rat.num_eq_zero.1 e] at this; exact Rat.lt_irrefl this
          omega
        have Hx := Lib.hid hx
        have Hno := Lib.hid hno
        obtain ⟨g, e, hgl, hrow⟩ := (K.get 2 rfl : SlP wr Al l) (by intro h; rw [h] at hlt; simp at hlt)
        subst e
        obtain ⟨c0, c1⟩ := hrow k b hx
        simp only [Nat.zero_add] at c0 c1
        clear hx hbe hbm hno hrow
        go_wp2_with fail
        replace K := K.box b.q.num b.q.den
        clear c0 c1 hgl
        generalize wr.alloc (.cells #[.int .i64 b.q.num, .int .i64 b.q.den] 28) = wq at K ⊢
        generalize wr.heap.size = bb at K ⊢
        obtain ⟨hlb, e0, e1⟩ := (K.get 0 rfl : Has wq bb b.q.num b.q.den)
        have p0 := Gr.cell e0 hlb
        have p1 := Gr.cell e1 hlb
        haveI : Nonempty (Wd (Gr wq)) := ⟨⟨wq, Below.refl _ _⟩⟩
        have Haf : Hid (∀ s0 : Wd (Gr wq), Kept w (isR bb b.q.num b.q.den :: [isR (U.heap.size + 1) y.num y.den, isR U.heap.size x.num x.den, isP (some ⟨g, 0, none⟩) l, isC Ac cc c]) s0.val) := fun s0 => K.keep s0.ok
        have npos : ¬ (b.q.num ≤ 0) := by omega
        clear e0 e1
        by_cases hkp : 0 < k
        case' pos =>
          have z1 : 0 < (k : Int) := by omega
          obtain ⟨j, rfl⟩ : ∃ j, k = j + 1 := ⟨k - 1, by omega⟩
          have hy : l[j]? = some l[j] := List.getElem?_eq_getElem (by omega)
          obtain ⟨a, hae⟩ : ∃ a, l[j] = a := ⟨_, rfl⟩
          rw [hae] at hy
          have hab : a.q < b.q := by
            have hp := hpw.out
            rw [List.pairwise_iff_getElem] at hp
            have h1 := hp j (j + 1) (by omega) hlt (Nat.lt_succ_self j)
            rw [hae] at h1
            have h2 := Hx.out
            rw [List.getElem?_eq_getElem hlt] at h2
            rw [Option.some.inj h2] at h1
            exact h1
          obtain ⟨_, e, hgl, hrow⟩ := (K.get 3 rfl : SlP wq _ l) (by intro h; rw [h] at hlt; simp at hlt)
          cases e
          obtain ⟨a0, a1⟩ := hrow j a hy
          simp only [Nat.zero_add] at a0 a1
          have n0 := Gr.cell a0 hgl
          have n1 := Gr.cell a1 hgl
          have i1 : IntKind.i64.wrap (((j + 1 : Nat) : Int) - 1) = j := by rw [IntWalk.i64_in _ (by omega)]; omega
          have i2 : IntKind.i64.wrap ((j : Int) + 1 - 1) = j := by rw [IntWalk.i64_in _ (by omega)]; omega
          have i3 : ((j : Int) + 1 - 1) = j := by omega
          have r1 : ¬ (0 ≤ cmpQ a.q b.q) := by rw [Int.not_le]; exact cmpQ_neg.2 hab
          have HC1 := HCp.out a b
          generalize cmpQ a.q b.q = k1 at HC1 r1
          have HC1 := Lib.hid HC1
          clear hy hae hab a0 a1 hrow
          refine wp_region_cls (Gr wq) (by kernel_rfl) (by kernel_rfl) (Gr.start wq) ?_
          repeat (go_big_quiet_step ((go_at_call 17; (with_reducible exact Calls.cls Gr.close (HC1.out _)))))
          refine wpQuiet_nil ?_
          intro _ hw'
          obtain ⟨s0, rfl⟩ := hw'
          have K1 := Haf.out s0
          clear p0 p1 n0 n1 i1 i2 i3 r1 HC1 K
        case' neg =>
          have z1 : ¬ (0 < (k : Int)) := by omega
          refine wp_region_cls (Gr wq) (by kernel_rfl) (by kernel_rfl) (Gr.start wq) ?_
          repeat (go_big_quiet_step (fail))
          refine wpQuiet_nil ?_
          intro _ hw'
          obtain ⟨s0, rfl⟩ := hw'
          have K1 := Haf.out s0
          clear p0 p1 K
        all_goals
          generalize s0.val = v1 at K1 ⊢
          have HX1 := HCx.out b
          have HY1 := HCy.out b
          have q1 : Hid (0 < cmpQ b.q x ↔ x < b.q) := by
            unfold Hid cmpQ
            constructor
            · intro h
              by_cases h1 : b.q < x
              · rw [if_pos h1] at h; omega
              · rw [if_neg h1] at h
                by_cases h2 : x < b.q
                · exact h2
                · rw [if_neg h2] at h; omega
            · intro h; rw [if_neg (lt_asymm' h), if_pos h]; decide
          have q2 : Hid (cmpQ b.q y < 0 ↔ b.q < y) := cmpQ_neg
          generalize cmpQ b.q x = k1 at HX1 q1
          generalize cmpQ b.q y = k2 at HY1 q2
          have HX1 := Lib.hid HX1
          have HY1 := Lib.hid HY1
          have b0 := (K1.get 0 rfl).c0
          have b1 := (K1.get 0 rfl).c1
          have x0 := (K1.get 2 rfl).c0
          have x1 := (K1.get 2 rfl).c1
          go_wp2_with fail
          (with_reducible refine (HX1.out _).mono ?_); rintro e Z1 ⟨rfl, hb⟩
          replace K1 := K1.keep hb.b
          clear hb b0 b1 x0 x1
          by_cases h1 : 0 < k1
          · have b0 := (K1.get 0 rfl).c0
            have b1 := (K1.get 0 rfl).c1
            have y0 := (K1.get 1 rfl).c0
            have y1 := (K1.get 1 rfl).c1
            go_wp2_with fail
            (with_reducible refine (HY1.out _).mono ?_); rintro e Z2 ⟨rfl, hb⟩
            replace K1 := K1.keep hb.b
            clear hb b0 b1 y0 y1
            by_cases h2 : k2 < 0
            · go_wp2_with fail
              (with_reducible refine (HW.out _).mono ?_); rintro e Z3 ⟨rfl, hb⟩
              have hB := Lib.hid (K1.keep hb).b
              clear K1 hb
              go_wp2
              go_ret
              exact ⟨rfl, hB.out⟩
            · have hn : Hid (¬ (x < b.q ∧ b.q < y)) := fun h => h2 (q2.out.2 h.2)
              have K2 := Lib.hid K1.tl
              clear K1
              go_wp2_with fail
              go_roundw
              case rel => first | exact ⟨k + 1, by omega, by go_num, no_snoc Hno.out Hx.out hn.out, K2.out⟩ | exact ⟨j + 1 + 1, by omega, by go_num, no_snoc Hno.out Hx.out hn.out, K2.out⟩
              case measure => simp [intOf]; omega
          · have hn : Hid (¬ (x < b.q ∧ b.q < y)) := fun h => h1 (q1.out.2 h.1)
            have K2 := Lib.hid K1.tl
            clear K1
            go_wp2_with fail
            go_roundw
            case rel => first | exact ⟨k + 1, by omega, by go_num, no_snoc Hno.out Hx.out hn.out, K2.out⟩ | exact ⟨j + 1 + 1, by omega, by go_num, no_snoc Hno.out Hx.out hn.out, K2.out⟩
            case measure => simp [intOf]; omega
      · obtain rfl : k = l.length := by omega
        rw [List.take_length] at hno
        have hlin := hL1.out hno
        rw [hlin] at HTw
        clear hlin hL1 hno hk hlt
        generalize va + vb = both at HBoth HTw
        have x0 := (K.get 1 rfl).c0
        have x1 := (K.get 1 rfl).c1
        have y0 := (K.get 0 rfl).c0
        have y1 := (K.get 0 rfl).c1
        go_wp2_with fail
        (with_reducible refine (HAdd.out _).mono ?_); rintro e V1 ⟨rfl, hb⟩
        clear x0 x1 y0 y1
        replace K := (K.keep hb).box s.num s.den
        clear hb
        have s0 := (K.get 0 rfl).c0
        have s1 := (K.get 0 rfl).c1
        obtain ⟨L, hL, KL⟩ := K.pack
        have HAll : Hid (∀ W : World, Kept w L W → W.cell? ⟨V1.heap.size, 0, none⟩ = some (.int .i64 s.num) ∧ W.cell? ⟨V1.heap.size, 1, none⟩ = some (.int .i64 s.den) ∧ Kept w L W) := fun W k => ⟨by rw [hL.out] at k; exact (k.get 0 rfl).c0, by rw [hL.out] at k; exact (k.get 0 rfl).c1, k⟩
        clear s0 s1 K
        go_wp2_with fail
        generalize V1.alloc (.cells #[.int .i64 s.num, .int .i64 s.den] 28) = W1 at KL ⊢
        generalize V1.heap.size = bs at hL HAll ⊢
        obtain ⟨c0, c1, -⟩ := HAll.out _ KL
        have hbs : bs < W1.heap.size := by
          have := KL
          rw [hL.out] at this
          exact (this.get 0 rfl).lt
        have HK := Lib.hid KL
        clear KL HAll
        go_cut [16, 17] (fun s16 s17 wx => ∃ g : Nat, s16 = .pointer (some ⟨g, 0, none⟩) ∧ s17 = .int .i64 0 ∧ Kept w (isR g mid.num mid.den :: L) wx)
        case first =>
          go_region_with (first
            | (go_at_call 24; (with_reducible refine (HN.out _ _ _).mono ?_); rintro e v1 ⟨rfl, hbn'⟩; have hbn := hbn'.b; clear hbn'; obtain ⟨hcn, hfn⟩ := bcell hbn; have hzn := hbn.size; (try simp only [World.size_alloc, World.size_drew] at hcn); (try simp only [World.size_alloc, World.size_drew] at hfn); (try simp only [World.size_alloc, World.size_drew] at hzn); (try have hkn : W1.heap.size < v1.heap.size := by omega); (try have hkb : bs < v1.heap.size := by omega))
            | (go_at_call 23; (with_reducible refine (HDiv.out _).mono ?_); rintro e v2 ⟨rfl, hbd⟩; obtain ⟨hcd, hfd⟩ := bcell hbd; have hzd := hbd.size; (try simp only [World.size_alloc] at hcd); (try simp only [World.size_alloc] at hfd); (try simp only [World.size_alloc] at hzd); (try have hkd1 : W1.heap.size < v2.heap.size := by omega); (try have hkd2 : v1.heap.size < v2.heap.size := by omega)))
          all_goals
            go_wp2_with fail
            go_meet
            refine ⟨_, rfl, rfl, (HK.out.keep ?_).add (cl_isR _ mid.num mid.den) ⟨?_, ?_, ?_⟩⟩
            · repeat' (first
                | (with_reducible exact Below.refl _ _)
                | (with_reducible refine Below.setCell ?_ ?_ _)
                | (with_reducible refine Below.alloc ?_ ?_ _)
                | (with_reducible refine Below.drew ?_)
                | (with_reducible refine Below.trans ?_ (hbd.mono ?_))
                | (with_reducible refine Below.trans ?_ (hbn.mono ?_))
                | omega
                | (simp; done)
                | (simp; omega))
            · first | omega | (simp; done) | (simp; omega)
            · go_simp
            · go_simp
        case rest =>
          obtain ⟨g16, rfl, rfl, K⟩ := hcut
          rw [hL.out] at K
          clear hL HK c0 c1 hbs
          have x0 := (K.get 3 rfl).c0
          have x1 := (K.get 3 rfl).c1
          go_wp2_with fail
          (with_reducible refine (HVa.out _ _ _ (K.get 5 rfl)).mono ?_); rintro e V2 ⟨rfl, hb⟩
          clear x0 x1
          replace K := (K.keep hb).box va.num va.den
          clear hb
          have y0 := (K.get 3 rfl).c0
          have y1 := (K.get 3 rfl).c1
          go_wp2_with fail
          (with_reducible refine (HVb.out _ _ _ (K.get 6 rfl)).mono ?_); rintro e V3 ⟨rfl, hb⟩
          clear y0 y1
          replace K := (K.keep hb).box vb.num vb.den
          clear hb
          have mid0 := (K.get 2 rfl).c0
          have mid1 := (K.get 2 rfl).c1
          go_wp2_with fail
          (with_reducible refine (HVm.out _ _ _ (K.get 7 rfl)).mono ?_); rintro e V4 ⟨rfl, hb⟩
          clear mid0 mid1
          replace K := (K.keep hb).box vm.num vm.den
          clear hb
          have va0 := (K.get 2 rfl).c0
          have va1 := (K.get 2 rfl).c1
          have vb0 := (K.get 1 rfl).c0
          have vb1 := (K.get 1 rfl).c1
          go_wp2_with fail
          (with_reducible refine (HBoth.out _).mono ?_); rintro e V5 ⟨rfl, hb⟩
          clear va0 va1 vb0 vb1
          replace K := (K.keep hb).box both.num both.den
          clear hb
          have vm0 := (K.get 1 rfl).c0
          have vm1 := (K.get 1 rfl).c1
          go_wp2_with fail
          (with_reducible refine (HTw.out _).mono ?_); rintro e V6 ⟨rfl, hb⟩
          clear vm0 vm1
          replace K := (K.keep hb).box both.num both.den
          clear hb
          have tw0 := (K.get 0 rfl).c0
          have tw1 := (K.get 0 rfl).c1
          have both0 := (K.get 1 rfl).c0
          have both1 := (K.get 1 rfl).c1
          go_wp2_with fail
          (with_reducible refine (HW.out _).mono ?_); rintro e Z9 ⟨rfl, hb⟩
          have hB := Lib.hid (K.keep hb).b
          clear K hb
          go_wp2
          go_ret
          exact ⟨rfl, hB.out⟩
end Go.Proofs.Ythkgmgochgjpoaa.BrkLaw
