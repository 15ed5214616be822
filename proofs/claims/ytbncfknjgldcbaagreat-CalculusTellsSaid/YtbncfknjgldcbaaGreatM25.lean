/- Merged texts: RBreaks. -/
import Derived.Test.YtbncfknjgldcbaaGreatM9
import Derived.BigGuardPart
import Derived.Deep.DeepCutAuto
import Derived.Deep.RegionWith
/- The reference's Breaks. -/
namespace Go.Proofs.YtbncfknjgldcbaaGreat.Ref
open Go.RowKit Go.Joins Go.Shelf Go.Sort Num

set_option maxHeartbeats 1000000 in
theorem breaks_bad (A : Option Addr) (cap : Nat) (c : List Bk) (hlen : c.length ≤ 1048576) (hbd : ∀ x ∈ c, x.bd64) (w : World) (hI : SlR w.heap.size w (.slice A c.length cap) c) (hbad : valC c = false) :
    Calls Tryz.prog 24 #[.slice A c.length cap] w fun e w' => e = .returned (.tuple #[.slice none 0 0, .int .i64 2]) ∧ Below w.heap.size w w' := by
  have HV := valid_c A cap c hlen hbd w hI
  rw [hbad] at HV
  clear hI hbd hbad
  go_enter Tryz.func24, Tryz.ntmps24
  go_wp2_with fail
  (with_reducible refine HV.mono ?_); rintro e w1 ⟨rfl, hb1⟩
  go_wp2
  go_ret2
  exact ⟨rfl, hb1⟩
def BreaksPost (n : List Buck) (w : World) (e : Ending) (w' : World) : Prop :=
  ((¬ ∀ p ∈ twosL n, okm p) → e = .returned (.tuple #[.slice none 0 0, .int .i64 3])) ∧
  ((∀ p ∈ twosL n, okm p) → ∃ v, e = .returned (.tuple #[v, .int .i64 0]) ∧ OutP w' v (brkL n)) ∧ Below w.heap.size w w'
/-- The increasing list of the points of some pairs. -/
structure PtsI (l : List (Buck × Buck)) (M : List Pt) : Prop where
  i : Inc M
  m : ∀ z, z ∈ M ↔ z ∈ l.map meetP
  n : M.length ≤ l.length
theorem PtsI.nil : PtsI [] [] := ⟨.nil, fun _ => by simp, Nat.le_refl _⟩
theorem PtsI.ins {l : List (Buck × Buck)} {M M' : List Pt} {p : Buck × Buck} (h : PtsI l M) (k : insP M (meetP p) M') (hn : M'.length ≤ M.length + 1) : PtsI (l ++ [p]) M' :=
  ⟨k.1, fun z => by rw [k.2 z, h.m z]; simp [or_comm], by simp; have := h.n; omega⟩
theorem PtsI.done {n : List Buck} {M : List Pt} (h : PtsI (twosL n) M) : M = brkL n := inc_ext h.i (brk_spec n).1 fun z => by rw [h.m z, (brk_spec n).2 z]

set_option maxRecDepth 100000 in
set_option maxHeartbeats 8000000 in
theorem breaks_ok (A : Option Addr) (ca : Nat) (a : List Buck) (ha1 : 1 ≤ a.length) (ha2 : a.length ≤ 32) (w : World) (hIa : Sl w.heap.size w (.slice A a.length ca) a) :
    Calls Tryz.prog 24 #[.slice A a.length ca] w (BreaksPost (normL a) w) := by
  have HV := valid_ok ha1 ha2 hIa
  have HA : Hid (∀ W : World, Below w.heap.size w W → _) := fun W hb => norm_any A ca a (by omega) W ((hIa.below hb (Nat.le_refl _)).more hb.size)
  have hla : (normL a).length ≤ 32 := Nat.le_trans (normL_len a) ha2
  have hna : normL a ≠ [] := normL_ne (by intro h; subst h; simp at ha1)
  have hpw := Lib.hid (normL_nf a).o
  have HD1 : Hid (∀ (x y : Buck) (W : World), _) := fun x y W => sub_r y.hb x.hb W
  have HD2 : Hid (∀ (x y : Buck) (W : World), _) := fun x y W => sub_r x.hr y.hr W
  have HI : Hid (∀ (v : Value) (L : List Pt) (x : Pt), Inc L → L.length ≤ 1048576 → ∀ W : World, OutP W v L → _) := fun v L x h1 h2 W h3 => insert_any v L x h1 h2 W h3
  clear hIa
  generalize normL a = N at HA hla hna hpw ⊢
  have htl := Lib.hid (Nat.le_trans (twosL_length N) (Nat.mul_le_mul hla hla))
  unfold BreaksPost
  go_enter Tryz.func24, Tryz.ntmps24
  go_wp2_with fail
  (with_reducible refine HV.mono ?_); rintro e w1 ⟨rfl, hB1⟩
  have HA1 := HA.out _ hB1
  clear HV HA
  go_wp2_with fail
  (with_reducible refine HA1.mono ?_); rintro e w4 ⟨v3, rfl, hO3, hb4⟩
  have hB4 := hB1.trans (hb4.mono hB1.size)
  obtain ⟨Aa, cca, rfl⟩ := hO3.form
  obtain ⟨ga, rfl, hga, hra⟩ := hO3.cells hna
  have Hra := Lib.hid hra
  have HB4 := Lib.hid hB4
  clear HA1 hO3 hb4 hra hB1 hB4
  go_wp2_with fail
  go_loopw [5, 6] (fun v i wr => ∃ (k : Nat) (M : List Pt), k ≤ N.length ∧ i = .int .i64 ↑k ∧ Hid (∀ p ∈ twosTo N k, okm p) ∧ Hid (PtsI (twosTo N k) M) ∧ OutP wr v M ∧ Below w4.heap.size w4 wr)
    (fun _ i _ => N.length - (intOf i).toNat)
  case atStart => exact ⟨0, [], Nat.zero_le _, rfl, fun p hp => by simp [twosTo] at hp, by simpa [twosTo, Hid] using PtsI.nil, .nil _, Below.refl _ _⟩
  case round =>
    obtain ⟨k, M, hk, rfl, hall, hpt, hout, hBr⟩ := hrel
    by_cases hlt : k < N.length
    · have hx : N[k]? = some N[k] := List.getElem?_eq_getElem hlt
      obtain ⟨x, hxe⟩ : ∃ x, N[k] = x := ⟨_, rfl⟩
      rw [hxe] at hx
      have hsucc := Lib.hid (twosTo_succ hx)
      have hpre := Lib.hid (fun j => twos_pre hx j)
      have hPl := Lib.hid ((twosTo_pre N k).length_le)
      obtain ⟨d, hd⟩ : ∃ d, N.drop (k + 1) = d := ⟨_, rfl⟩
      obtain ⟨P, hP⟩ : ∃ P, twosTo N k = P := ⟨_, rfl⟩
      rw [hP] at hsucc hpre hall hpt hPl
      rw [hd] at hsucc hpre
      have hdl : d.length + (k + 1) = N.length := by rw [← hd, List.length_drop]; omega
      have Hd := Lib.hid (show ∀ j : Nat, d[j]? = N[k + 1 + j]? from fun j => by rw [← hd, List.getElem?_drop])
      have Hx := Lib.hid hx
      have Hout := Lib.hid hout
      clear hx hxe hP hout hd
      go_wp2_with fail
      go_loopw [5, 7] (fun v i wx => ∃ (j : Nat) (M : List Pt), j ≤ d.length ∧ i = .int .i64 ↑(k + 1 + j) ∧ Hid (∀ p ∈ P ++ (d.take j).map (fun y => (x, y)), okm p) ∧ Hid (PtsI (P ++ (d.take j).map (fun y => (x, y))) M) ∧ OutP wx v M ∧ Below w4.heap.size w4 wx)
        (fun _ i _ => N.length - (intOf i).toNat)
      case atStart => exact ⟨0, M, Nat.zero_le _, by go_num, by simpa using hall, by simpa using hpt, Hout.out, hBr⟩
      case round =>
        clear hall hpt Hout hBr
        obtain ⟨j, M, hj, rfl, hall, hpt, hout, hBr⟩ := hrel
        obtain ⟨Am, cm, rfl⟩ := hout.form
        have hPl2 := Lib.hid (hpre.out j).length_le
        by_cases hlj : j < d.length
        · have hkj : k + 1 + j < N.length := by omega
          have hy : d[j]? = some d[j] := List.getElem?_eq_getElem hlj
          obtain ⟨y, hye⟩ : ∃ y, d[j] = y := ⟨_, rfl⟩
          rw [hye] at hy
          have hyN : N[k + 1 + j]? = some y := by rw [← Hd.out j]; exact hy
          have hbf : Hid (x.bef y) := by
            have hp := List.pairwise_iff_getElem.1 hpw.out k (k + 1 + j) hlt hkj (by omega)
            have h1 := Hx.out
            rw [List.getElem?_eq_getElem hlt] at h1
            rw [Option.some.inj h1] at hp
            have h2 := hyN
            rw [List.getElem?_eq_getElem hkj] at h2
            rw [Option.some.inj h2] at hp
            exact hp
          have hts := Lib.hid (take_succ' hy)
          have hra := Hra.out.below hBr hga
          have hgaz : ga < wr.heap.size := Nat.lt_of_lt_of_le hga hBr.size
          obtain ⟨x0, x1, x2, x3⟩ := hra k x Hx.out
          obtain ⟨y0, y1, y2, y3⟩ := hra (k + 1 + j) y hyN
          simp only [Nat.zero_add] at x0 x1 x2 x3 y0 y1 y2 y3
          obtain ⟨q, hq⟩ : ∃ q, k + 1 + j = q := ⟨_, rfl⟩
          rw [hq] at hkj hyN y0 y1 y2 y3 ⊢
          obtain ⟨rv, hrv⟩ : ∃ rv, ofR (y.b - x.b) = rv := ⟨_, rfl⟩
          obtain ⟨rw', hrw⟩ : ∃ rv, ofR (x.r - y.r) = rv := ⟨_, rfl⟩
          have H1 := HD1.out x y
          have H2 := HD2.out x y
          rw [hrv] at H1
          rw [hrw] at H2
          obtain ⟨sn, sd, se⟩ := rv
          obtain ⟨tn, td, te⟩ := rw'
          simp only [ratV] at H1 H2
          have H1 := Lib.hid H1
          have H2 := Lib.hid H2
          have Hrv := Lib.hid hrv
          have Hrw := Lib.hid hrw
          have Hq := Lib.hid hq
          have Hout := Lib.hid hout
          have Hra1 := Lib.hid hra
          have Hy := Lib.hid hyN
          clear hrv hrw hout hra hy hye hyN hq
          have hlj' := Lib.hid hlj
          clear hlj
          go_wp2_with fail
          go_cut [8, 9] (fun s8 s9 wx => ∃ g : Nat, s8 = .pointer (some ⟨g, 0, none⟩) ∧ s9 = .int .i64 se ∧ wr.heap.size ≤ g ∧ Has wx g sn sd ∧ Below wr.heap.size wr wx)
          case first =>
            go_region_with (first
              | (go_at_call 60; (with_reducible refine (H1.out _).mono ?_); rintro e v1 ⟨rfl, hbn⟩; obtain ⟨hcn, hfn⟩ := bcell hbn; have hzn := hbn.size; (try simp only [World.size_alloc, World.size_drew] at hcn); (try simp only [World.size_alloc, World.size_drew] at hfn); (try simp only [World.size_alloc, World.size_drew] at hzn); (try have hkn : wr.heap.size < v1.heap.size := by omega)))
            all_goals
              go_wp2_with fail
              go_meet
              refine ⟨_, rfl, rfl, ?_, ⟨?_, ?_, ?_⟩, ?_⟩
              · first | omega | exact Nat.le_refl _
              · first | omega | (simp; done) | (simp; omega)
              · go_simp
              · go_simp
              · (repeat' (first | (with_reducible exact Below.refl _ _) | (with_reducible refine Below.setCell ?_ ?_ _) | (with_reducible refine Below.alloc ?_ ?_ _) | (with_reducible refine Below.drew ?_) | (with_reducible refine Below.trans ?_ (hbn.mono ?_)) | omega | (simp; done) | (simp; omega)))
          case rest =>
            obtain ⟨g1, rfl, rfl, hg1, hV1, hbw1⟩ := hcut
            obtain ⟨W1, hW1⟩ : ∃ W, W = wc := ⟨_, rfl⟩
            subst hW1
            have hga1 := Nat.lt_of_lt_of_le hgaz hbw1.size
            clear x0 x1 x2 x3 y0 y1 y2 y3 H1
            obtain ⟨x0, x1, x2, x3⟩ := Hra1.out.below hbw1 hgaz k x Hx.out
            obtain ⟨y0, y1, y2, y3⟩ := Hra1.out.below hbw1 hgaz q y Hy.out
            simp only [Nat.zero_add] at x0 x1 x2 x3 y0 y1 y2 y3
            go_wp2_with fail
            go_cut [10, 11] (fun s8 s9 wx => ∃ g : Nat, s8 = .pointer (some ⟨g, 0, none⟩) ∧ s9 = .int .i64 te ∧ W1.heap.size ≤ g ∧ Has wx g tn td ∧ Below W1.heap.size W1 wx)
            case first =>
              go_region_with (first
                | (go_at_call 60; (with_reducible refine (H2.out _).mono ?_); rintro e v1 ⟨rfl, hbn⟩; obtain ⟨hcn, hfn⟩ := bcell hbn; have hzn := hbn.size; (try simp only [World.size_alloc, World.size_drew] at hcn); (try simp only [World.size_alloc, World.size_drew] at hfn); (try simp only [World.size_alloc, World.size_drew] at hzn); (try have hkn : W1.heap.size < v1.heap.size := by omega)))
              all_goals
                go_wp2_with fail
                go_meet
                refine ⟨_, rfl, rfl, ?_, ⟨?_, ?_, ?_⟩, ?_⟩
                · first | omega | exact Nat.le_refl _
                · first | omega | (simp; done) | (simp; omega)
                · go_simp
                · go_simp
                · (repeat' (first | (with_reducible exact Below.refl _ _) | (with_reducible refine Below.setCell ?_ ?_ _) | (with_reducible refine Below.alloc ?_ ?_ _) | (with_reducible refine Below.drew ?_) | (with_reducible refine Below.trans ?_ (hbn.mono ?_)) | omega | (simp; done) | (simp; omega)))
            case rest =>
              obtain ⟨g2, rfl, rfl, hg2, hV2, hbw2⟩ := hcut
              obtain ⟨W2, hW2⟩ : ∃ W, W = wc := ⟨_, rfl⟩
              subst hW2
              have hV1' := hV1.keep hbw2
              have hB2 := hbw1.trans (hbw2.mono hbw1.size)
              have Hb2 := Lib.hid hB2
              have hB4 : Below w4.heap.size w4 W2 := hBr.trans (hB2.mono hBr.size)
              have HBB := Lib.hid hB4
              have v0 := hV1'.c0
              have v1 := hV1'.c1
              have v2 := hV2.c0
              have v3 := hV2.c1
              have k1 := hV1'.lt
              have k2 := hV2.lt
              clear x0 x1 x2 x3 y0 y1 y2 y3 H2 hV1 hV1' hV2 hbw1 hbw2 hB2 hB4
              have hpm : Hid ((x, y) ∈ twosL N) := (hpre.out (j + 1)).subset (by rw [hts.out]; simp)
              by_cases hp : Fit (y.b - x.b)
              · have he := Hrv.out
                rw [ofR_yes hp] at he
                simp only [Prod.mk.injEq] at he
                obtain ⟨e1, e2, rfl⟩ := he
                by_cases hq : Fit (x.r - y.r)
                · have he := Hrw.out
                  rw [ofR_yes hq] at he
                  simp only [Prod.mk.injEq] at he
                  obtain ⟨e3, e4, rfl⟩ := he
                  have h0 : x.r - y.r ≠ 0 := meet_ne (p := (x, y)) hbf.out
                  have H3 : ∀ W : World, _ := fun W => div_r hp hq W h0
                  rw [e1, e2, e3, e4] at H3
                  by_cases hdv : Fit ((y.b - x.b) / (x.r - y.r))
                  · have hok : okm (x, y) := ⟨⟨hp, hq⟩, h0, hdv⟩
                    rw [ofR_yes hdv] at H3
                    obtain ⟨pt, hpt1⟩ : ∃ pt, meetP (x, y) = pt := ⟨_, rfl⟩
                    have hptq : pt.q = (y.b - x.b) / (x.r - y.r) := by rw [← hpt1]; exact meetP_q hok
                    rw [← hptq] at H3
                    simp only [ratV] at H3
                    have H3 := Lib.hid H3
                    have Hpt1 := Lib.hid hpt1
                    have hall2 : Hid (∀ p ∈ P ++ (d.take (j + 1)).map (fun y => (x, y)), okm p) := by
                      intro p hp'
                      rw [hts.out, List.map_append, ← List.append_assoc, List.mem_append] at hp'
                      rcases hp' with h | h
                      · exact hall.out p h
                      · simp at h; subst h; exact hok
                    have hO2 := Hout.out.keep Hb2.out
                    have HO2 := Lib.hid hO2
                    clear e1 e2 e3 e4 hok hp hq hdv h0 hptq hpt1 hall hO2
                    go_wp2_with fail
                    (with_reducible refine (H3.out _).mono ?_); rintro e W3 ⟨rfl, hb3⟩
                    have hO3 := (HO2.out.keep hb3).keep ((Below.refl _ W3).alloc (Nat.le_refl _) (.cells #[.int .i64 pt.q.num, .int .i64 pt.q.den] 25))
                    have hBc := HBB.out.trans (hb3.mono HBB.out.size)
                    have HBc := Lib.hid (hBc.alloc hBc.size (.cells #[.int .i64 pt.q.num, .int .i64 pt.q.den] 25))
                    have hI3 := HI.out _ M pt hpt.out.i (by have := hpt.out.n; have := hPl2.out; have := htl.out; omega) _ hO3
                    clear v0 v1 v2 v3 hb3 hO3 hBc HO2
                    go_wp2_with fail
                    (with_reducible refine hI3.mono ?_); rintro e W4 ⟨v', M', rfl, hO4, hins, hn4, hb4⟩
                    have HO4 := Lib.hid hO4
                    have HB5 := Lib.hid (HBc.out.trans (hb4.mono HBc.out.size))
                    have hpt2 : Hid (PtsI (P ++ (d.take (j + 1)).map (fun y => (x, y))) M') := by
                      unfold Hid
                      rw [hts.out, List.map_append, ← List.append_assoc]
                      refine hpt.out.ins (p := (x, y)) ?_ hn4
                      rw [Hpt1.out]
                      exact hins
                    clear hI3 hO4 hb4 hpt hins
                    go_wp2
                    go_roundw
                    case rel => exact ⟨j + 1, M', hlj'.out, by have := Hq.out; subst this; go_num, hall2.out, hpt2.out, HO4.out, HB5.out⟩
                    case measure => simp [intOf]; omega
                  · have hno : Hid (¬ ∀ p ∈ twosL N, okm p) := fun h => hdv (h _ hpm.out).2.2
                    rw [ofR_no hdv] at H3
                    simp only [ratV] at H3
                    have H3 := Lib.hid H3
                    clear e1 e2 e3 e4 hp hq hdv h0 hall hpt hts
                    go_wp2_with fail
                    (with_reducible refine (H3.out _).mono ?_); rintro e W3 ⟨rfl, hb3⟩
                    have hBc := HBB.out.trans (hb3.mono HBB.out.size)
                    have hB := Lib.hid (HB4.out.trans ((hBc.alloc hBc.size (.cells #[.int .i64 0, .int .i64 0] 25)).mono HB4.out.size))
                    clear v0 v1 v2 v3 hb3 hBc
                    go_wp2
                    go_ret2
                    exact ⟨fun _ => rfl, fun h => absurd h hno.out, hB.out⟩
                · have he := Hrw.out
                  rw [ofR_no hq] at he
                  simp only [Prod.mk.injEq] at he
                  obtain ⟨rfl, rfl, rfl⟩ := he
                  have hno : Hid (¬ ∀ p ∈ twosL N, okm p) := fun h => hq (h _ hpm.out).1.2
                  clear v0 v1 v2 v3 hts hall hp hq hpt e1 e2
                  go_wp2
                  go_ret2
                  exact ⟨fun _ => rfl, fun h => absurd h hno.out, HB4.out.trans (HBB.out.mono HB4.out.size)⟩
              · have he := Hrv.out
                rw [ofR_no hp] at he
                simp only [Prod.mk.injEq] at he
                obtain ⟨rfl, rfl, rfl⟩ := he
                have hno : Hid (¬ ∀ p ∈ twosL N, okm p) := fun h => hp (h _ hpm.out).1.1
                clear v0 v1 v2 v3 hts hall hp hpt
                go_wp2
                go_ret2
                exact ⟨fun _ => rfl, fun h => absurd h hno.out, HB4.out.trans (HBB.out.mono HB4.out.size)⟩
        · obtain rfl : j = d.length := by omega
          rw [List.take_length, ← hsucc.out] at hall hpt
          have hout := Lib.hid hout
          have hkn : k + 1 + d.length = N.length := by omega
          rw [hkn]
          go_wp2
          go_roundw
          case rel => exact ⟨k + 1, M, by omega, by go_num, hall, hpt, hout.out, hBr⟩
          case measure => simp [intOf]; omega
    · obtain rfl : k = N.length := by omega
      rw [twosTo_all] at hall hpt
      have hM := hpt.out.done
      subst hM
      obtain ⟨Am, cm, rfl⟩ := hout.form
      have hout := Lib.hid hout
      have hB := HB4.out.trans (hBr.mono HB4.out.size)
      clear hpt
      go_wp2
      go_ret2
      exact ⟨fun h => absurd hall.out h, fun _ => ⟨_, rfl, hout.out⟩, hB⟩
end Go.Proofs.YtbncfknjgldcbaaGreat.Ref
