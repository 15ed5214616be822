/- The reference's Sum. -/
import Derived.Test.YtaanhddgmiggfaaGreatRShift
import Derived.BigGuardPart
import Derived.Deep.DeepCutAuto
import Derived.Deep.RegionWith
namespace Go.Proofs.YtaanhddgmiggfaaGreat.Ref
open Go.RowKit Go.Joins Go.Shelf Go.Sort Num

theorem sum_bad (A B : Option Addr) (ca cb : Nat) (a b : List Bk) (hla : a.length ≤ 1048576) (hba : ∀ x ∈ a, x.bd64) (hlb : b.length ≤ 1048576) (hbb : ∀ x ∈ b, x.bd64) (w : World) (hIa : SlR w.heap.size w (.slice A a.length ca) a) (hIb : SlR w.heap.size w (.slice B b.length cb) b) (hbad : (valC a && valC b) = false) :
    Calls Tryz.prog 22 #[.slice A a.length ca, .slice B b.length cb] w fun e w' => e = .returned (.tuple #[.slice none 0 0, .int .i64 2]) ∧ Below w.heap.size w w' := by
  have HV := valid_c A ca a hla hba w hIa
  have HT : Hid (∀ W : World, Below w.heap.size w W → _) := fun W hb => valid_c B cb b hlb hbb W ((hIb.below hb (Nat.le_refl _)).more hb.size)
  clear hIa hIb hba hbb
  generalize valC a = vc at hbad HV
  generalize valC b = va at hbad HT
  cases vc
  · go_enter Tryz.func22, Tryz.ntmps22
    go_wp2_with fail
    (with_reducible refine HV.mono ?_); rintro e w1 ⟨rfl, hb1⟩
    go_wp2
    go_ret2
    exact ⟨rfl, hb1⟩
  · obtain rfl : va = false := by simpa using hbad
    go_enter Tryz.func22, Tryz.ntmps22
    go_wp2_with fail
    (with_reducible refine HV.mono ?_); rintro e w1 ⟨rfl, hb1⟩
    have HT1 := HT.out _ hb1
    go_wp2_with fail
    (with_reducible refine HT1.mono ?_); rintro e w2 ⟨rfl, hb2⟩
    go_wp2
    go_ret2
    exact ⟨rfl, hb1.trans (hb2.mono hb1.size)⟩
def SumPost (na nb : List Buck) (w : World) (e : Ending) (w' : World) : Prop :=
  (32 < na.length * nb.length → e = .returned (.tuple #[.slice none 0 0, .int .i64 5])) ∧
  (na.length * nb.length ≤ 32 → (¬ ∀ p ∈ pairsL na nb, oka p) → e = .returned (.tuple #[.slice none 0 0, .int .i64 3])) ∧
  (na.length * nb.length ≤ 32 → (∀ p ∈ pairsL na nb, oka p) → ∃ v, e = .returned (.tuple #[v, .int .i64 0]) ∧ OutS w' v (normL ((pairsL na nb).map addB))) ∧ Below w.heap.size w w'
theorem mulwrap {m n : Nat} (hm : m ≤ 32) (hn : n ≤ 32) : IntKind.i64.wrap ((m : Int) * n) = (m : Int) * n := by
  have h : m * n ≤ 1024 := Nat.le_trans (Nat.mul_le_mul hm hn) (by decide)
  have h2 : ((m : Int) * n) = ((m * n : Nat) : Int) := by simp
  rw [h2, IntWalk.i64_in _ (by omega)]
theorem pairsL_len (a b : List Buck) : (pairsL a b).length = a.length * b.length := pairs_length a b

set_option maxRecDepth 100000 in
set_option maxHeartbeats 8000000 in
theorem sum_ok (A B : Option Addr) (ca cb : Nat) (a b : List Buck) (ha1 : 1 ≤ a.length) (ha2 : a.length ≤ 32) (hb1 : 1 ≤ b.length) (hb2 : b.length ≤ 32) (w : World) (hIa : Sl w.heap.size w (.slice A a.length ca) a) (hIb : Sl w.heap.size w (.slice B b.length cb) b) :
    Calls Tryz.prog 22 #[.slice A a.length ca, .slice B b.length cb] w (SumPost (normL a) (normL b) w) := by
  obtain ⟨i0, hi, hz0, hz1, hz2⟩ := info_parts infoB
  have HV := valid_ok ha1 ha2 hIa
  have HT : Hid (∀ W : World, Below w.heap.size w W → _) := fun W hb => valid_ok hb1 hb2 (W := W) ((hIb.below hb (Nat.le_refl _)).more hb.size)
  have HA : Hid (∀ W : World, Below w.heap.size w W → _) := fun W hb => norm_any A ca a (by omega) W ((hIa.below hb (Nat.le_refl _)).more hb.size)
  have HBn : Hid (∀ W : World, Below w.heap.size w W → _) := fun W hb => norm_any B cb b (by omega) W ((hIb.below hb (Nat.le_refl _)).more hb.size)
  have hla : (normL a).length ≤ 32 := Nat.le_trans (normL_len a) ha2
  have hlb : (normL b).length ≤ 32 := Nat.le_trans (normL_len b) hb2
  have hna : normL a ≠ [] := normL_ne (by intro h; subst h; simp at ha1)
  have hnb : normL b ≠ [] := normL_ne (by intro h; subst h; simp at hb1)
  have HD1 : Hid (∀ (x y : Buck) (W : World), _) := fun x y W => add_r x.hb y.hb W
  have HD2 : Hid (∀ (x y : Buck) (W : World), _) := fun x y W => add_r x.hr y.hr W
  clear hIa hIb
  generalize normL a = na at HA hla hna ⊢
  generalize normL b = nb at HBn hlb hnb ⊢
  unfold SumPost
  go_enter Tryz.func22, Tryz.ntmps22
  go_wp2_with fail
  (with_reducible refine HV.mono ?_); rintro e w1 ⟨rfl, hB1⟩
  have HT1 := HT.out _ hB1
  go_wp2_with fail
  (with_reducible refine HT1.mono ?_); rintro e w2 ⟨rfl, hB2⟩
  replace hB2 := hB1.trans (hB2.mono hB1.size)
  have HA1 := HA.out _ hB2
  clear HV HT HT1 hB1 HA
  go_wp2_with fail
  (with_reducible refine HA1.mono ?_); rintro e w3 ⟨v3, rfl, hO3, hB3⟩
  replace hB3 := hB2.trans (hB3.mono hB2.size)
  have HB1 := HBn.out _ hB3
  obtain ⟨Aa, cca, rfl⟩ := hO3.form
  have HO3 := Lib.hid hO3
  clear HA1 HBn hO3 hB2
  go_wp2_with fail
  (with_reducible refine HB1.mono ?_); rintro e w4 ⟨v4, rfl, hO4, hb4⟩
  have hB4 := hB3.trans (hb4.mono hB3.size)
  obtain ⟨Ab, ccb, rfl⟩ := hO4.form
  have hO3 := HO3.out.keep hb4
  obtain ⟨ga, rfl, hga, hra⟩ := hO3.cells hna
  obtain ⟨gb, rfl, hgb, hrb⟩ := hO4.cells hnb
  have Hra := Lib.hid hra
  have Hrb := Lib.hid hrb
  have HB4 := Lib.hid hB4
  clear HB1 hO3 hO4 HO3 hb4 hra hrb hB3 hB4
  by_cases hmul : 32 < na.length * nb.length
  · have Hm := Lib.hid hmul
    have hm1 : decide ((32 : Int) < (na.length : Int) * nb.length) = true := by simp; exact_mod_cast hmul
    have hm2 : (32 : Int) < (na.length : Int) * nb.length := by exact_mod_cast hmul
    have hw := Lib.hid (mulwrap hla hlb)
    have hw1 := hw.out
    go_wp2
    go_ret2
    exact ⟨fun _ => rfl, fun h => absurd Hm.out (Nat.not_lt.2 h), fun h => absurd Hm.out (Nat.not_lt.2 h), HB4.out⟩
  · have Hm := Lib.hid (Nat.not_lt.1 hmul)
    have hm1 : decide ((32 : Int) < (na.length : Int) * nb.length) = false := by simp; exact_mod_cast Nat.not_lt.1 hmul
    have hm2 : ¬ (32 : Int) < (na.length : Int) * nb.length := by have := Nat.not_lt.1 hmul; intro h; exact absurd (by exact_mod_cast h) hmul
    have hw := Lib.hid (mulwrap hla hlb)
    have hw1 := hw.out
    clear hmul
    go_wp2_with fail
    clear hw1 hm1 hm2
    go_loopw [8, 9] (fun v i wr => ∃ k : Nat, k ≤ na.length ∧ i = .int .i64 ↑k ∧ Hid (∀ p ∈ pairsL (na.take k) nb, oka p) ∧ Own4 w4.heap.size wr v ((pairsL (na.take k) nb).map addB) ∧ Below w4.heap.size w4 wr)
      (fun _ i _ => na.length - (intOf i).toNat)
    case atStart => exact ⟨0, Nat.zero_le _, rfl, fun p hp => by simp [pairsL] at hp, ⟨by simpa [pairsL, cellsOf] using World.ownsRow_nil _ _ _ _, by simp [pairsL]⟩, Below.refl _ _⟩
    case round =>
      obtain ⟨k, hk, rfl, hall, hown, hBr⟩ := hrel
      obtain ⟨Av, cv, hvf⟩ := hown.form
      by_cases hlt : k < na.length
      · have hx : na[k]? = some na[k] := List.getElem?_eq_getElem hlt
        obtain ⟨x, hxe⟩ : ∃ x, na[k] = x := ⟨_, rfl⟩
        rw [hxe] at hx
        have hsucc := Lib.hid (pairs_succ (b := nb) hx)
        have hpre := Lib.hid (fun j => pairs_pre (b := nb) hx j)
        have hPl := Lib.hid (show (pairsL (na.take k) nb).length ≤ 1024 by
          rw [pairsL_len, List.length_take]
          exact Nat.le_trans (Nat.mul_le_mul (show min k na.length ≤ 32 by omega) hlb) (by decide))
        obtain ⟨P, hP⟩ : ∃ P, pairsL (na.take k) nb = P := ⟨_, rfl⟩
        rw [hP] at hsucc hpre hall hown hPl
        have Hx := Lib.hid hx
        have Hown := Lib.hid hown
        clear hx hxe hP hown hvf
        go_wp2_with fail
        go_loopw [8, 10] (fun v i wx => ∃ j : Nat, j ≤ nb.length ∧ i = .int .i64 ↑j ∧ Hid (∀ p ∈ P ++ (nb.take j).map (fun y => (x, y)), oka p) ∧ Own4 w4.heap.size wx v ((P ++ (nb.take j).map (fun y => (x, y))).map addB) ∧ Below w4.heap.size w4 wx)
          (fun _ i _ => nb.length - (intOf i).toNat)
        case atStart => exact ⟨0, Nat.zero_le _, rfl, by simpa using hall, by simpa using Hown.out, hBr⟩
        case round =>
          clear hall Hown hBr
          obtain ⟨j, hj, rfl, hall, hown, hBr⟩ := hrel
          obtain ⟨Av, cv, hvf⟩ := hown.form
          obtain ⟨n, hn⟩ : ∃ n, ((P ++ (nb.take j).map (fun y => (x, y))).map addB).length = n := ⟨_, rfl⟩
          have hnl : n ≤ 1056 := by rw [← hn]; simp; have := hPl.out; omega
          rw [hn] at hvf
          subst hvf
          by_cases hlj : j < nb.length
          · have hy : nb[j]? = some nb[j] := List.getElem?_eq_getElem hlj
            obtain ⟨y, hye⟩ : ∃ y, nb[j] = y := ⟨_, rfl⟩
            rw [hye] at hy
            have hts := Lib.hid (take_succ' hy)
            have hra := Hra.out.below hBr hga
            have hrb := Hrb.out.below hBr hgb
            have hgaz : ga < wr.heap.size := Nat.lt_of_lt_of_le hga hBr.size
            have hgbz : gb < wr.heap.size := Nat.lt_of_lt_of_le hgb hBr.size
            obtain ⟨x0, x1, x2, x3⟩ := hra k x Hx.out
            obtain ⟨y0, y1, y2, y3⟩ := hrb j y hy
            simp only [Nat.zero_add] at x0 x1 x2 x3 y0 y1 y2 y3
            obtain ⟨rv, hrv⟩ : ∃ rv, ofR (x.b + y.b) = rv := ⟨_, rfl⟩
            obtain ⟨rw', hrw⟩ : ∃ rv, ofR (x.r + y.r) = rv := ⟨_, rfl⟩
            have H1 := HD1.out x y
            have H2 := HD2.out x y
            rw [hrv] at H1
            rw [hrw] at H2
            obtain ⟨sn, sd, se⟩ := rv
            obtain ⟨tn, td, te⟩ := rw'
            simp only [ratV] at H1 H2
            have H1 := Lib.hid H1
            have H2 := Lib.hid H2
            have Hrv := Lib.hid hrv
            have Hrw := Lib.hid hrw
            have Hown := Lib.hid hown
            have Hn := Lib.hid hn
            have Hra1 := Lib.hid hra
            have Hrb1 := Lib.hid hrb
            have Hy := Lib.hid hy
            clear hrv hrw hown hn hra hrb hy hye
            go_wp2_with fail
            go_cut [11, 12] (fun s8 s9 wx => ∃ g : Nat, s8 = .pointer (some ⟨g, 0, none⟩) ∧ s9 = .int .i64 se ∧ wr.heap.size ≤ g ∧ Has wx g sn sd ∧ Below wr.heap.size wr wx)
            case first =>
              go_region_with (first
                | (go_at_call 68; (with_reducible refine (H1.out _).mono ?_); rintro e v1 ⟨rfl, hbn⟩; obtain ⟨hcn, hfn⟩ := bcell hbn; have hzn := hbn.size; (try simp only [World.size_alloc, World.size_drew] at hcn); (try simp only [World.size_alloc, World.size_drew] at hfn); (try simp only [World.size_alloc, World.size_drew] at hzn); (try have hkn : wr.heap.size < v1.heap.size := by omega)))
              all_goals
                go_wp2_with fail
                go_meet
                refine ⟨_, rfl, rfl, ?_, ⟨?_, ?_, ?_⟩, ?_⟩
                · first | omega | exact Nat.le_refl _
                · first | omega | (simp; done) | (simp; omega)
                · go_simp
                · go_simp
                · (repeat' (first | (with_reducible exact Below.refl _ _) | (with_reducible refine Below.setCell ?_ ?_ _) | (with_reducible refine Below.alloc ?_ ?_ _) | (with_reducible refine Below.drew ?_) | (with_reducible refine Below.trans ?_ (hbn.mono ?_)) | omega | (simp; done) | (simp; omega)))
            case rest =>
              obtain ⟨g1, rfl, rfl, hg1, hV1, hbw1⟩ := hcut
              obtain ⟨W1, hW1⟩ : ∃ W, W = wc := ⟨_, rfl⟩
              subst hW1
              have hga1 := Nat.lt_of_lt_of_le hgaz hbw1.size
              have hgb1 := Nat.lt_of_lt_of_le hgbz hbw1.size
              clear x0 x1 x2 x3 y0 y1 y2 y3 H1
              obtain ⟨x0, x1, x2, x3⟩ := Hra1.out.below hbw1 hgaz k x Hx.out
              obtain ⟨y0, y1, y2, y3⟩ := Hrb1.out.below hbw1 hgbz j y Hy.out
              simp only [Nat.zero_add] at x0 x1 x2 x3 y0 y1 y2 y3
              go_wp2_with fail
              go_cut [13, 14] (fun s8 s9 wx => ∃ g : Nat, s8 = .pointer (some ⟨g, 0, none⟩) ∧ s9 = .int .i64 te ∧ W1.heap.size ≤ g ∧ Has wx g tn td ∧ Below W1.heap.size W1 wx)
              case first =>
                go_region_with (first
                  | (go_at_call 68; (with_reducible refine (H2.out _).mono ?_); rintro e v1 ⟨rfl, hbn⟩; obtain ⟨hcn, hfn⟩ := bcell hbn; have hzn := hbn.size; (try simp only [World.size_alloc, World.size_drew] at hcn); (try simp only [World.size_alloc, World.size_drew] at hfn); (try simp only [World.size_alloc, World.size_drew] at hzn); (try have hkn : W1.heap.size < v1.heap.size := by omega)))
                all_goals
                  go_wp2_with fail
                  go_meet
                  refine ⟨_, rfl, rfl, ?_, ⟨?_, ?_, ?_⟩, ?_⟩
                  · first | omega | exact Nat.le_refl _
                  · first | omega | (simp; done) | (simp; omega)
                  · go_simp
                  · go_simp
                  · (repeat' (first | (with_reducible exact Below.refl _ _) | (with_reducible refine Below.setCell ?_ ?_ _) | (with_reducible refine Below.alloc ?_ ?_ _) | (with_reducible refine Below.drew ?_) | (with_reducible refine Below.trans ?_ (hbn.mono ?_)) | omega | (simp; done) | (simp; omega)))
              case rest =>
                obtain ⟨g2, rfl, rfl, hg2, hV2, hbw2⟩ := hcut
                obtain ⟨W2, hW2⟩ : ∃ W, W = wc := ⟨_, rfl⟩
                subst hW2
                have hV1' := hV1.keep hbw2
                have hB2 := hbw1.trans (hbw2.mono hbw1.size)
                have Hb2 := Lib.hid hB2
                have hB4 : Below w4.heap.size w4 W2 := hBr.trans (hB2.mono hBr.size)
                have HBB := Lib.hid hB4
                have v0 := hV1'.c0
                have v1 := hV1'.c1
                have v2 := hV2.c0
                have v3 := hV2.c1
                have k1 := hV1'.lt
                have k2 := hV2.lt
                clear x0 x1 x2 x3 y0 y1 y2 y3 H2 hV1 hV1' hV2 hbw1 hbw2 hB2 hB4
                have hpm : Hid ((x, y) ∈ pairsL na nb) := (hpre.out (j + 1)).subset (by rw [hts.out]; simp)
                by_cases hp : Fit (x.b + y.b)
                · have he := Hrv.out
                  rw [ofR_yes hp] at he
                  simp only [Prod.mk.injEq] at he
                  obtain ⟨e1, e2, rfl⟩ := he
                  by_cases hq : Fit (x.r + y.r)
                  · have he := Hrw.out
                    rw [ofR_yes hq] at he
                    simp only [Prod.mk.injEq] at he
                    obtain ⟨e3, e4, rfl⟩ := he
                    have hok : oka (x, y) := ⟨hp, hq⟩
                    have hall2 : Hid (∀ p ∈ P ++ (nb.take (j + 1)).map (fun y => (x, y)), oka p) := by
                      intro p hp'
                      rw [hts.out, List.map_append, ← List.append_assoc, List.mem_append] at hp'
                      rcases hp' with h | h
                      · exact hall.out p h
                      · simp at h; subst h; exact hok
                    have hmp : Hid ((P ++ (nb.take (j + 1)).map (fun y => (x, y))).map addB = (P ++ (nb.take j).map (fun y => (x, y))).map addB ++ [addB (x, y)]) := by
                      unfold Hid
                      rw [hts.out, List.map_append (l₁ := nb.take j), ← List.append_assoc, List.map_append (l₁ := P ++ _)]
                      rfl
                    have hsn := cellsOf_snoc ((P ++ (nb.take j).map (fun y => (x, y))).map addB) (addB (x, y))
                    rw [add_cells hok] at hsn
                    simp only [e1, e2, e3, e4] at hsn
                    have hSn := Lib.hid hsn
                    have ho := own_below Hown.out.1 Hb2.out
                    rw [Hn.out] at ho
                    have Ho := Lib.hid ho
                    obtain ⟨acc, hacc⟩ : ∃ acc, (P ++ (nb.take j).map (fun y => (x, y))).map addB = acc := ⟨_, rfl⟩
                    rw [hacc] at Ho hSn hmp Hn
                    have hone : Hid (∀ u ∈ [Value.int .i64 sn, .int .i64 sd, .int .i64 tn, .int .i64 td], u.oneCell' = true) := by
                      intro u hu
                      simp only [List.mem_cons, List.not_mem_nil, or_false] at hu
                      rcases hu with rfl | rfl | rfl | rfl <;> rfl
                    have hNew : (W2.alloc (.cells #[.int .i64 sn, .int .i64 sd, .int .i64 tn, .int .i64 td] 80)).heap[W2.heap.size]? = some (.cells #[.int .i64 sn, .int .i64 sd, .int .i64 tn, .int .i64 td] 80 (0, 0)) := heap_alloc_new W2 _
                    have hNews := Lib.hid (World.news_of_block hNew)
                    have hwb : w4.heap.size ≤ W2.heap.size := HBB.out.size
                    clear hsn ho hacc e1 e2 e3 e4 hok hp hq hts hall hNew
                    go_wp2_with (at_builtin; refine wpList_append_own _ rfl _ _ 23 rfl w4.heap.size 80 i0 _ 4 32 Tryz.underlying23 hi hz0 hz1 hz2 rfl (by decide) _ _ _ rfl (Ho.out.alloc _) ⟨W2.heap.size, 0, none⟩ 1 1 [.int .i64 sn, .int .i64 sd, .int .i64 tn, .int .i64 td] rfl rfl hNews.out hone.out (by unfold maxLen; omega) (by omega) (by simp; omega) ?_; intro v' w5 hown' hgrow _; obtain ⟨g', cap3, rfl⟩ := ownsRow_succ hown')
                    have hB5 : Below w4.heap.size w4 w5 := (HBB.out.alloc hwb _).grown hgrow (by simp; omega) (fun j e => own_block_le Ho.out e)
                    have HB5 := Lib.hid hB5
                    have Hown5 := Lib.hid hown'
                    clear hown' hgrow hB5 v0 v1 v2 v3
                    go_roundw
                    case rel => exact ⟨j + 1, hlj, by go_num, hall2.out, by rw [hmp.out]; exact ⟨by rw [hSn.out, List.length_append, Hn.out]; exact Hown5.out, by simp⟩, HB5.out⟩
                    case measure => simp [intOf]; omega
                  · have he := Hrw.out
                    rw [ofR_no hq] at he
                    simp only [Prod.mk.injEq] at he
                    obtain ⟨rfl, rfl, rfl⟩ := he
                    have hno : Hid (¬ ∀ p ∈ pairsL na nb, oka p) := fun h => hq (h _ hpm.out).2
                    clear v0 v1 v2 v3 hts hall hp hq
                    go_wp2
                    go_ret2
                    exact ⟨fun h => absurd h (Nat.not_lt.2 Hm.out), fun _ _ => rfl, fun _ h => absurd h hno.out, HB4.out.trans (HBB.out.mono HB4.out.size)⟩
                · have he := Hrv.out
                  rw [ofR_no hp] at he
                  simp only [Prod.mk.injEq] at he
                  obtain ⟨rfl, rfl, rfl⟩ := he
                  have hno : Hid (¬ ∀ p ∈ pairsL na nb, oka p) := fun h => hp (h _ hpm.out).1
                  clear v0 v1 v2 v3 hts hall hp
                  go_wp2
                  go_ret2
                  exact ⟨fun h => absurd h (Nat.not_lt.2 Hm.out), fun _ _ => rfl, fun _ h => absurd h hno.out, HB4.out.trans (HBB.out.mono HB4.out.size)⟩
          · obtain rfl : j = nb.length := by omega
            rw [List.take_length, ← hsucc.out] at hall hown
            have Hown := Lib.hid hown
            have Hn := Lib.hid hn
            clear hown hn
            go_wp2
            go_roundw
            case rel => exact ⟨k + 1, by omega, by go_num, hall, Hown.out, hBr⟩
            case measure => simp [intOf]; omega
      · obtain rfl : k = na.length := by omega
        rw [List.take_length] at hall hown hvf
        subst hvf
        have hN := norm_any Av cv ((pairsL na nb).map addB) (by rw [List.length_map, pairsL_len]; exact Nat.le_trans (Nat.mul_le_mul hla hlb) (by decide)) wr hown.sl
        simp only [List.length_map] at hN
        have hB5 := Lib.hid (HB4.out.trans (hBr.mono HB4.out.size))
        clear hown
        go_wp2_with fail
        (with_reducible refine hN.mono ?_); rintro e w5 ⟨v, rfl, h1, h3⟩
        have hO := Lib.hid h1
        have hB6 := hB5.out.trans (h3.mono hB5.out.size)
        clear h1 hN
        go_wp2
        go_ret2
        exact ⟨fun h => absurd h (Nat.not_lt.2 Hm.out), fun _ h => absurd hall.out h, fun _ _ => ⟨v, rfl, hO.out⟩, hB6⟩
end Go.Proofs.YtaanhddgmiggfaaGreat.Ref
