/- MemoryApart: each address of each partition has a physical address of its own. -/
import Derived.Test.YtdhofaiogbpjpaaAwake
import Derived.Test.YtdhofaiogbpjpaaFrame
import Derived.Test.YtdhofaiogbpjpaaApM
import Derived.Test.YtdhofaiogbpjpaaVal
namespace Go.Proofs.Ytdhofaiogbpjpaa
open Go.RowKit Go.Joins
namespace Me
theorem infoI : (Try.prog.info? 3).map (fun i => (i.zero, i.size, i.bytes)) = some (some (.int .i64 0), 1, 8) := by kernel_rfl
/-- The counters of addresses. -/
def Met (W : World) (g m : Nat) (F : Nat → Nat) : Prop := ∃ cs : Array Value, BoxN W g 3 cs ∧ ∀ x, x < m → cs[x]? = some (.int .i64 (F x : Nat))
theorem Met.keep {W W' : World} {g m : Nat} {F : Nat → Nat} (h : Met W g m F) (hb : Below W.heap.size W W') : Met W' g m F := by
  obtain ⟨cs, h1, h2⟩ := h
  exact ⟨cs, h1.keep hb, h2⟩
theorem Met.same {W : World} {g m : Nat} {F F' : Nat → Nat} (h : Met W g m F) (he : ∀ x, x < m → F x = F' x) : Met W g m F' := by
  obtain ⟨cs, h1, h2⟩ := h
  exact ⟨cs, h1, fun x hx => by rw [h2 x hx, he x hx]⟩
theorem Met.set {W : World} {g m : Nat} {F : Nat → Nat} (h : Met W g m F) (i v : Nat) (hi : i < m) : Met (W.setCell ⟨g, i, none⟩ (.int .i64 (v : Nat))) g m (fun x => if x = i then v else F x) := by
  obtain ⟨cs, h1, h2⟩ := h
  have hs : i < cs.size := (Array.getElem?_eq_some_iff.1 (h2 i hi)).1
  refine ⟨cs.setIfInBounds i (.int .i64 (v : Nat)), h1.set1 i _, fun x hx => ?_⟩
  rw [Array.getElem?_setIfInBounds]
  by_cases e : i = x
  · subst e; simp [hs]
  · have e' : ¬ x = i := fun h => e h.symm
    rw [if_neg e, h2 x hx]
    simp [e']
theorem Met.cell {W : World} {g m : Nat} {F : Nat → Nat} (h : Met W g m F) (i : Nat) (hi : i < m) : g < W.heap.size ∧ W.cell? ⟨g, i, none⟩ = some (.int .i64 (F i : Nat)) ∧ W.frozen? ⟨g, i, none⟩ = false := by
  obtain ⟨cs, h1, h2⟩ := h
  exact ⟨h1.lt, by rw [h1.cell, h2 i hi], h1.frozen i⟩
theorem met_of_own {W : World} {base g m c : Nat} (h : W.ownsRow base 3 1 (.slice (some ⟨g, 0, none⟩) m c) m (madeCells (Value.int .i64 0).cells (m * 1)).toList) : Met W g m (fun _ => 0) := by
  have e : (madeCells (Value.int .i64 0).cells (m * 1)).toList = List.replicate m (.int .i64 0) := by
    rw [Nat.mul_one]
    exact toList_madeCells_one _ _
  rw [e] at h
  rcases h.2 with ⟨h0, _⟩ | ⟨g', cap, cur, h0, _, hg, _, _, _, hx⟩
  · cases h0
  · simp only [Value.slice.injEq, Option.some.injEq, Addr.mk.injEq, and_true, true_and] at h0
    obtain ⟨rfl, rfl⟩ := h0
    refine ⟨cur, hg, fun x hx' => ?_⟩
    rw [← Array.getElem?_toList]
    have : (cur.toList.take (m * 1))[x]? = (List.replicate m (Value.int .i64 0))[x]? := by rw [hx]
    rw [List.getElem?_take_of_lt (by omega)] at this
    rw [this]
    simp [hx']
theorem layR_cases (mem : Int) (zs : List Int) : (∃ e : Int, layR mem zs = ([], e) ∧ (e != 0) = true) ∨ (modOk mem zs = true ∧ ¬ mem < endA (zs.map Int.toNat) zs.length ∧ layR mem zs = (layA (zs.map Int.toNat) zs.length, 0)) := by
  cases h : modOk mem zs with
  | false => exact .inl ⟨2, layR_bad h, rfl⟩
  | true =>
    by_cases h2 : mem < endA (zs.map Int.toNat) zs.length
    · exact .inl ⟨4, layR_full h h2, rfl⟩
    · exact .inr ⟨rfl, h2, layR_ok h h2⟩
set_option maxRecDepth 100000 in
set_option maxHeartbeats 16000000 in
theorem apart_any (s : ByteArray) (mem fr : Int) (A : Option Addr) (n c : Nat) (Ps : List Pt) (w : World) (hn : Ps.length = n) (hA : isP A Ps w) :
    Calls Try.prog 5 #[mdV s mem fr A n c] w fun e w' => e = .returned (.bool true) ∧ Below w.heap.size w w' := by
  obtain ⟨i0, hi, hz0, hz1, hz2⟩ := info_parts infoI
  have HW : Hid (∀ W : World, _) := fun W => awake_any W
  have hB0 := (Below.refl w.heap.size w).alloc (Nat.le_refl _) (.cells #[.string s, .int .i64 mem, .int .i64 fr, .slice A n c] 24)
  have bM := BoxN.new w 24 #[.string s, .int .i64 mem, .int .i64 fr, .slice A n c]
  have HA := Lib.hid hA
  have HL := Lib.hid hn
  have HY : Hid (∀ W, Below w.heap.size w W → _) := fun W h => layout_any s mem fr A c n Ps hn W (hA.keep h)
  obtain ⟨zs, hzs⟩ : ∃ zs, Ps.map Pt.z = zs := ⟨_, rfl⟩
  have hzl : zs.length = n := by rw [← hzs, List.length_map, hn]
  have HZ : Hid (∀ (k : Nat) (x : Pt), Ps[k]? = some x → zs[k]? = some x.z) := fun k x hk => by rw [← hzs, List.getElem?_map, hk]; rfl
  rw [hzs] at HY
  have hcase := layR_cases mem zs
  rw [hzl] at hcase
  have HZL := Lib.hid hzl
  clear hA hn hzs hzl
  simp only [mdV] at *
  go_enter Try.func5, Try.ntmps5
  go_wp2_with fail
  (with_reducible refine (HW.out _).mono ?_); rintro _ w1 ⟨rfl, hb⟩
  have hB1 := hB0.trans (hb.mono hB0.size)
  replace bM := bM.keep hb
  have hl := bM.lt
  have m0 := bM.cell 0
  have m1 := bM.cell 1
  have m2 := bM.cell 2
  have m3 := bM.cell 3
  simp at m0 m1 m2 m3
  have HY1 := Lib.hid (HY.out _ hB1)
  clear hb hB0 HW HY
  rcases hcase with ⟨e, he, hne⟩ | ⟨hok, hfit, he⟩
  · rw [he] at HY1
    clear he
    go_wp2_with fail
    (with_reducible refine (HY1.out).mono ?_); rintro _ w2 ⟨G, cG, rfl, -, hb, -⟩
    have hB2 := hB1.trans (hb.mono hB1.size)
    simp only [List.length_nil]
    go_wp2_with fail
    go_ret
    exact ⟨rfl, hB2⟩
  · rw [he] at HY1
    have hmo := modOk_iff.1 hok
    have hn6 : n ≤ 6 := by have := hmo.2.1; rw [HZL.out] at this; exact this
    have hns := toNat_le hmo.2.2
    have HG : Hid (∀ (k : Nat) (z : Int), zs[k]? = some z → ((zs.map Int.toNat).getD k 0 : Int) = z) := fun k z h => toNat_get hmo.2.2 h
    have hm0 : 0 ≤ mem ∧ mem ≤ 4096 := by have := hmo.1; unfold szOk at this; simpa using this
    obtain ⟨mn, rfl⟩ : ∃ mn : Nat, mem = mn := ⟨mem.toNat, by omega⟩
    obtain ⟨ns, hnse⟩ : ∃ ns, zs.map Int.toNat = ns := ⟨_, rfl⟩
    rw [hnse] at HG hns HY1 hfit
    have Hns := Lib.hid hns
    have hmn : mn ≤ 4096 := by omega
    have hfitn : endA ns n ≤ mn := by omega
    have hvld : vldR (layA ns n) mn = true := vldR_yes (lay_vld hmo.1 hn6 (by omega))
    have HV : Hid (∀ (G : Option Addr) (cg : Nat) (W : World), n ≤ cg → isG G (layA ns n) W → _) := fun G cg W h1 h2 => valid_any G cg n (layA ns n) (layA_len ns n) h1 (fun x hx => by
      obtain ⟨j, hj⟩ := List.getElem?_of_mem hx
      obtain ⟨hj2, rfl⟩ := layA_inv hj
      have := lay_small hn6 hns hj2
      simp only [regA]
      omega) mn W h2
    rw [hvld] at HV
    clear hok hmo he hnse hvld hns hfit hm0
    go_wp2_with fail
    (with_reducible refine (HY1.out).mono ?_); rintro _ w2 ⟨G, cG, rfl, hG, hb, hcap⟩
    have hB2 := hB1.trans (hb.mono hB1.size)
    replace bM := bM.keep hb
    simp only [layA_len] at hG hcap ⊢
    have HV1 := Lib.hid (HV.out G cG w2 hcap hG)
    clear HY1 hB1 hb hl m0 m1 m2 m3 HV
    have hl := bM.lt
    have m1 := bM.cell 1
    have m3 := bM.cell 3
    simp at m1 m3
    have hnn : ((n : Int) != n) = false := by simp
    go_wp2_with fail
    (with_reducible refine (HV1.out).mono ?_); rintro _ w3 ⟨rfl, hb⟩
    have hB3 := hB2.trans (hb.mono hB2.size)
    replace bM := bM.keep hb
    replace hG := hG.keep hb
    clear HV1 hB2 hb hl m1 m3 hnn
    have hl := bM.lt
    have m1 := bM.cell 1
    have m3 := bM.cell 3
    simp at m1 m3
    go_wp2_with (refine wpList_make_full _ rfl _ _ 38 rfl w3.heap.size 3 i0 _ 1 Try.underlying38 hi hz0 hz1 .i64 .i64 _ _ mn rfl rfl rfl rfl (by rw [hz2]; omega) (by unfold maxLen; omega) (Nat.le_refl _) ?_; intro w4 hown4 hg4)
    have hB4 : Below w3.heap.size w3 w4 := (Below.refl _ _).grown hg4 (Nat.le_refl _) (fun _ h => by cases h)
    have hmet := met_of_own hown4
    have Hold : Hid (∀ W, Below w3.heap.size w3 W → BoxN W w.heap.size 24 #[.string s, .int .i64 (mn : Nat), .int .i64 fr, .slice A n c] ∧ isG G (layA ns n) W ∧ Below w.heap.size w W) := fun W h => ⟨bM.keep h, hG.keep h, hB3.trans (h.mono hB3.size)⟩
    have HT : Hid (∀ (W : World) (p a : Int), isG G (layA ns n) W → _) := fun W p a h => trans_any G cG n (layA ns n) (layA_len ns n) (by omega) p a W h
    have HO : Hid (∀ (W : World) (x : Int), isG G (layA ns n) W → _) := fun W x h => owner_any G cG n (layA ns n) (layA_len ns n) (by omega) x W h
    clear hown4 hg4 hG hB3 bM hl m1 m3
    obtain ⟨g, hge⟩ : ∃ g, w3.heap.size = g := ⟨_, rfl⟩
    rw [hge] at hmet hB4 Hold ⊢
    go_wp2_with fail
    go_loopw [6, 7] (fun t i wr => ∃ i' : Nat, i' ≤ n ∧ i = .int .i64 i' ∧ t = .int .i64 (tot ns i' : Nat) ∧ Met wr g mn (covN ns i' 0) ∧ Below g w3 wr)
      (fun _ i _ => n - (intOf i).toNat)
    case atStart => exact ⟨0, Nat.zero_le _, rfl, rfl, hmet.same fun x _ => (cov_zero ns x).symm, hB4⟩
    case round =>
      clear hmet hB4
      obtain ⟨i', hi', rfl, rfl, hmet, hB⟩ := hrel
      by_cases hlt : i' < n
      · have hdl : decide ((i' : Int) < n) = true := by simp; omega
        have hx : Ps[i']? = some (Ps[i']'(by rw [HL.out]; exact hlt)) := List.getElem?_eq_getElem _
        obtain ⟨x, hxe⟩ : ∃ x, Ps[i']'(by rw [HL.out]; exact hlt) = x := ⟨_, rfl⟩
        rw [hxe] at hx
        have hz := HG.out i' _ (HZ.out i' x hx)
        obtain ⟨ab, ao, rfl, hal, hr, -⟩ := isP.at HA.out hx
        obtain ⟨z, hze⟩ : ∃ z, ns.getD i' 0 = z := ⟨_, rfl⟩
        rw [hze] at hz
        have HC : Hid (∀ W, Below w.heap.size w W → ab < W.heap.size ∧ W.cell? ⟨ab, ao + i' * 10 + 3, none⟩ = some (.int .i64 (z : Nat))) := fun W hW => ⟨Nat.lt_of_lt_of_le hal hW.size, by
          rw [hz]
          exact (hW.cell (p := ⟨ab, ao + i' * 10 + 3, none⟩) hal).trans (hr 3 _ rfl)⟩
        have hsm := lay_small hn6 Hns.out hlt
        have hnx := endA_next ns i' n hlt
        have htl := tot_le ns i'
        have hea := up8_le (endA ns i')
        rw [hze] at hsm hnx
        obtain ⟨u, hu⟩ : ∃ u, up8 (endA ns i') = u := ⟨_, rfl⟩
        have Hlt : Hid (∀ a, a < z → trR (layA ns n) i' a = (((u + a : Nat) : Int), 0) ∧ owR (layA ns n) (u + a : Nat) = ((i' : Int), (a : Int), true)) := fun a ha => by
          rw [← hu]
          exact ⟨lay_trans hn6 Hns.out hlt (by rw [hze]; exact ha), lay_owner hn6 Hns.out hlt (by rw [hze]; exact ha)⟩
        have Hb1 : Hid (trR (layA ns n) i' (-1) = (0, 110)) := lay_below hlt
        have Hb2 : Hid (trR (layA ns n) i' (z : Nat) = (0, 110)) := by unfold Hid; rw [← hze]; exact lay_over hlt
        have Hcn : Hid (∀ a, covN ns i' a (u + a) = 0) := fun a => by rw [← hu]; exact cov_new ns i' a
        have Hcs : Hid (∀ a x, covN ns i' (a + 1) x = if x = u + a then 1 else covN ns i' a x) := fun a x => by rw [← hu]; exact cov_step ns i' a x
        have Hcx : Hid (∀ x, covN ns (i' + 1) 0 x = covN ns i' z x) := fun x => by rw [cov_next, hze]
        have Htt : Hid (tot ns (i' + 1) = tot ns i' + z) := by unfold Hid; rw [← hze]; rfl
        have htm : tot ns i' ≤ 24618 := by omega
        have hum : u + z ≤ mn := by omega
        clear hx hxe hr hze hz hu hsm hnx htl hea
        generalize tot ns i' = t0 at *
        go_wp2_with fail
        go_loopw [6, 8] (fun t a wx => ∃ a' : Nat, a' ≤ z ∧ a = .int .i64 a' ∧ t = .int .i64 (t0 + a' : Nat) ∧ Met wx g mn (covN ns i' a') ∧ Below g w3 wx)
          (fun _ a _ => z - (intOf a).toNat)
        case atStart => exact ⟨0, Nat.zero_le _, rfl, rfl, hmet, hB⟩
        case round =>
          clear hmet hB
          obtain ⟨a', ha', rfl, rfl, hmet, hB⟩ := hrel
          obtain ⟨bM, hG, hBw⟩ := Hold.out wr hB
          have hl := bM.lt
          have m1 := bM.cell 1
          have m3 := bM.cell 3
          simp at m1 m3
          obtain ⟨hal1, c3⟩ := HC.out wr hBw
          by_cases haz : a' < z
          · have hdz : decide ((a' : Int) < z) = true := by simp; omega
            obtain ⟨ht1, ho1⟩ := Hlt.out a' haz
            have hc0 := Hcn.out a'
            have Hcs1 := Lib.hid (Hcs.out a')
            obtain ⟨p, hp⟩ : ∃ p, u + a' = p := ⟨_, rfl⟩
            rw [hp] at ht1 ho1 hc0 Hcs1
            have hpm : p < mn := by omega
            have HT1 := Lib.hid (HT.out wr i' a' hG)
            rw [ht1] at HT1
            simp only at HT1
            go_wp2_with fail
            (with_reducible refine (HT1.out).mono ?_); rintro _ w5 ⟨rfl, hb⟩
            have hB5 := hB.trans (hb.mono (by have := hB.size; omega))
            replace hmet := hmet.keep hb
            clear hb hB bM hG hl m1 m3 hal1 c3 HT1 hBw hp
            obtain ⟨bM, hG, hBw⟩ := Hold.out w5 hB5
            have hl := bM.lt
            have m1 := bM.cell 1
            simp at m1
            have d1 : decide ((p : Int) < 0) = false := by simp
            have d2 : decide (mn ≤ p) = false := by simp; omega
            have HO1 := Lib.hid (HO.out w5 p hG)
            rw [ho1] at HO1
            simp only at HO1
            go_wp2_with fail
            (with_reducible refine (HO1.out).mono ?_); rintro _ w6 ⟨rfl, hb⟩
            have hB6 := hB5.trans (hb.mono (by have := hB5.size; omega))
            replace hmet := hmet.keep hb
            clear hb hB5 bM hG hl m1 HO1 hBw
            obtain ⟨hgl, hgc, hgf⟩ := hmet.cell p hpm
            rw [hc0] at hgc
            have hmet2 := hmet.set p 1 hpm
            have hB7 := hB6.setCell (p := ⟨g, p, none⟩) (Nat.le_refl g) (.int .i64 ((1 : Nat) : Int))
            have hmet3 := Lib.hid (hmet2.same (F' := covN ns i' (a' + 1)) fun x _ => (Hcs1.out x).symm)
            have q1 : ((i' : Int) != i') = false := by simp
            have q2 : ((a' : Int) != a') = false := by simp
            have q3 : IntKind.i64.wrap (((0 : Nat) : Int) + 1) = 1 := by decide
            clear hmet hmet2 Hcs1 hB6
            go_wp2_with fail
            exact ⟨⟨a' + 1, by omega, by go_num, by go_num, hmet3.out, hB7⟩, by simp [intOf]; omega⟩
          · obtain rfl : a' = z := by omega
            have hdz : decide ((a' : Int) < a') = false := by simp
            have HT1 := Lib.hid (HT.out wr i' (-1) hG)
            rw [Hb1.out] at HT1
            simp only at HT1
            go_wp2_with fail
            (with_reducible refine (HT1.out).mono ?_); rintro _ w5 ⟨rfl, hb⟩
            have hB5 := hB.trans (hb.mono (by have := hB.size; omega))
            replace hmet := hmet.keep hb
            clear hb hB bM hG hl m1 m3 hal1 c3 HT1 hBw
            obtain ⟨bM, hG, hBw⟩ := Hold.out w5 hB5
            have hl := bM.lt
            have m3 := bM.cell 3
            simp at m3
            obtain ⟨hal1, c3⟩ := HC.out w5 hBw
            have HT2 := Lib.hid (HT.out w5 i' a' hG)
            rw [Hb2.out] at HT2
            simp only at HT2
            go_wp2_with fail
            (with_reducible refine (HT2.out).mono ?_); rintro _ w6 ⟨rfl, hb⟩
            have hB6 := hB5.trans (hb.mono (by have := hB5.size; omega))
            replace hmet := hmet.keep hb
            have Hm := Lib.hid (hmet.same (F' := covN ns (i' + 1) 0) fun x _ => (Hcx.out x).symm)
            clear hb hB5 bM hG hl m3 hal1 c3 HT2 hBw hmet
            go_wp2_with fail
            go_roundw
            case rel => exact ⟨i' + 1, by omega, by go_num, by rw [Htt.out]; go_num, Hm.out, hB6⟩
            case measure => simp [intOf]; omega
      · obtain rfl : i' = n := by omega
        have hdl : decide ((i' : Int) < i') = false := by simp
        go_wp2_with fail
        go_loopw [18] (fun i wx => ∃ x : Nat, x ≤ mn ∧ i = .int .i64 x ∧ Met wx g mn (covN ns i' 0) ∧ Below g w3 wx)
          (fun i _ => mn - (intOf i).toNat)
        case atStart => exact ⟨0, Nat.zero_le _, rfl, hmet, hB⟩
        case round =>
          clear hmet hB
          obtain ⟨x, hx, rfl, hmet, hB⟩ := hrel
          obtain ⟨bM, hG, hBw⟩ := Hold.out wr hB
          have hl := bM.lt
          have m1 := bM.cell 1
          simp at m1
          by_cases hxm : x < mn
          · have hdx : decide ((x : Int) < mn) = true := by simp; omega
            have hco := cov_owner hn6 Hns.out x
            have HO1 := Lib.hid (HO.out wr x hG)
            have hle := covN_le ns i' 0 x
            have hce : ∃ cv, covN ns i' 0 x = cv := ⟨_, rfl⟩
            obtain ⟨cv, hcv⟩ := hce
            obtain ⟨⟨o1, o2, o3⟩, ho⟩ : ∃ o, owR (layA ns i') x = o := ⟨_, rfl⟩
            rw [ho] at HO1 hco
            simp only at HO1 hco
            rw [hcv] at hco hle
            go_wp2_with fail
            (with_reducible refine (HO1.out).mono ?_); rintro _ w5 ⟨rfl, hb⟩
            have hB5 := hB.trans (hb.mono (by have := hB.size; omega))
            replace hmet := hmet.keep hb
            clear hb hB bM hG hl m1 HO1 hBw ho
            obtain ⟨hgl, hgc, hgf⟩ := hmet.cell x hxm
            rw [hcv] at hgc
            have hq : ((cv : Int) == 1) = o3 := by rw [hco, Bool.eq_iff_iff]; simp; omega
            have hq2 : (o3 != o3) = false := by simp
            clear hco hcv
            go_wp2_with fail
            go_roundw
            case rel => exact ⟨x + 1, by omega, by go_num, hmet, hB5⟩
            case measure => simp [intOf]; omega
          · obtain rfl : x = mn := by omega
            have hdx : decide ((x : Int) < x) = false := by simp
            have HT1 := Lib.hid (HT.out wr i' 0 hG)
            rw [show trR (layA ns i') i' 0 = (0, 6) from lay_none] at HT1
            simp only at HT1
            have htl := tot_le ns i'
            have hd6 : decide (((tot ns i' : Nat) : Int) ≤ (x : Nat)) = true := by simp; omega
            have hd7 : decide (tot ns i' ≤ x) = true := by simp; omega
            go_wp2_with fail
            (with_reducible refine (HT1.out).mono ?_); rintro _ w5 ⟨rfl, hb⟩
            have hB5 := hB.trans (hb.mono (by have := hB.size; omega))
            clear hb hB bM hG hl m1 HT1 hBw
            obtain ⟨bM, hG, hBw⟩ := Hold.out w5 hB5
            have hl := bM.lt
            have m1 := bM.cell 1
            simp at m1
            go_wp2_with fail
            go_ret
            exact ⟨rfl, hBw⟩
theorem apart_walk (s : ByteArray) (mem fr : Int) (A : Option Addr) (n c : Nat) (Ps : List Pt) (w : World) (hn : Ps.length = n) (hA : isP A Ps w) (_ : n ≤ maxLen) (_ : -9223372036854775808 ≤ mem ∧ mem ≤ 9223372036854775807) (_ : ∀ z ∈ Ps.map Pt.z, -9223372036854775808 ≤ z ∧ z ≤ 9223372036854775807) :
    Calls Try.prog 5 #[mdV s mem fr A n c] w fun e w' => e = .returned (.bool true) ∧ Below w.heap.size w w' := apart_any s mem fr A n c Ps w hn hA
end Me
end Go.Proofs.Ytdhofaiogbpjpaa
