/- LexSplits: two sources separated by a newline. -/
import Derived.Test.YtbpncbomcdpogaaAlike
import Derived.Test.YtbpncbomcdpogaaSplitM
namespace Go.Proofs.Ytbpncbomcdpogaa
open Go.RowKit Go.Joins

theorem ks_shift (d : Nat) (L : List Tk) : ((L.map (shT d)).map raw).map ks = (L.map raw).map ks := by
  simp only [List.map_map]; rfl
theorem raw_app (L M : List Tk) : (L ++ M).map raw = L.map raw ++ M.map raw := List.map_append

namespace Sp
set_option maxRecDepth 100000 in
set_option maxHeartbeats 8000000 in
theorem walk (S S2 : ByteArray) (w : World) (hS : S.size ≤ maxLen) (hS2 : S2.size ≤ maxLen) :
    Calls Try.prog 8 #[.string S, .string S2] w fun e w' => e = .returned (.bool true) ∧ Below w.heap.size w w' := by
  obtain ⟨a, rfl⟩ := str_bstr S
  obtain ⟨b, rfl⟩ := str_bstr S2
  have HW : Hid (∀ W : World, _) := fun W => Aw.walk W
  have hba := bstr_size a
  have hbb := bstr_size b
  rw [hba] at hS
  rw [hbb] at hS2
  unfold maxLen at hS hS2
  go_enter Try.func8, Try.ntmps8
  go_wp2_with fail
  (with_reducible refine (HW.out _).mono ?_); rintro e w1 ⟨rfl, hB⟩
  clear HW
  by_cases hla : 2000 < a.length
  · have hd : decide ((2000 : Int) < a.length) = true := by simp; omega
    go_wp2_with fail
    go_ret
    exact ⟨rfl, hB⟩
  have hda : decide ((2000 : Int) < a.length) = false := by simp; omega
  by_cases hlb : 2000 < b.length
  · have hd : decide ((2000 : Int) < b.length) = true := by simp; omega
    go_wp2_with fail
    go_ret
    exact ⟨rfl, hB⟩
  have hdb : decide ((2000 : Int) < b.length) = false := by simp; omega
  have hcat : bstr a ++ ⟨#[10]⟩ ++ bstr b = bstr (a ++ 10#8 :: b) := by
    rw [show (⟨#[10]⟩ : ByteArray) = bstr [10#8] from rfl, bstr_append, bstr_append, List.append_assoc]; rfl
  have hcases := lex_split a b (by omega)
  have HA : Hid (∀ W : World, _) := fun W => lex_n a (bstr a) rfl (lexT a) (lexT a).length (lexO a) (lexE a) rfl rfl rfl rfl W
  have HB2 : Hid (∀ W : World, _) := fun W => lex_n b (bstr b) rfl (lexT b) (lexT b).length (lexO b) (lexE b) rfl rfl rfl rfl W
  have HC : Hid (∀ W : World, _) := fun W => lex_n (a ++ 10#8 :: b) (bstr (a ++ 10#8 :: b)) rfl (lexT (a ++ 10#8 :: b)) (lexT (a ++ 10#8 :: b)).length (lexO (a ++ 10#8 :: b)) (lexE (a ++ 10#8 :: b)) rfl rfl rfl rfl W
  have hTa : (lexT a).length ≤ 2000 := by
    unfold lexT; split
    · simp
    · exact Nat.le_trans (scan_len 0 a) (by omega)
  have hTb : (lexT b).length ≤ 2000 := by
    unfold lexT; split
    · simp
    · exact Nat.le_trans (scan_len 0 b) (by omega)
  have hob := lexO_le b
  have htbo := lexT_off b
  generalize lexE a = ea at *
  generalize lexE b = eb at *
  generalize lexE (a ++ 10#8 :: b) = ec at *
  generalize lexO a = oa at *
  generalize lexO b = ob at *
  generalize lexO (a ++ 10#8 :: b) = oc at *
  generalize lexT a = ta at *
  generalize lexT b = tb at *
  generalize lexT (a ++ 10#8 :: b) = tc at *
  generalize bstr (a ++ 10#8 :: b) = Sc at *
  go_wp2_with fail
  (with_reducible refine (HA.out _).mono ?_); rintro e w2 ⟨Ga, ca, rfl, hra, hca, hb2⟩
  replace hB := hB.trans (hb2.mono hB.size)
  clear hb2 HA hda hdb
  go_wp2_with fail
  (with_reducible refine (HB2.out _).mono ?_); rintro e w3 ⟨Gb, cb, rfl, hrb, hcb, hb3⟩
  replace hB := hB.trans (hb3.mono hB.size)
  replace hra := hra.keep hb3
  clear hb3 HB2
  go_wp2_with fail
  (with_reducible refine (HC.out _).mono ?_); rintro e w4 ⟨Gc, cc, rfl, hrc, hcc, hb4⟩
  replace hB := hB.trans (hb4.mono hB.size)
  replace hra := hra.keep hb4
  replace hrb := hrb.keep hb4
  clear hb4 HC hcat
  rcases hcases with ⟨h1, rfl, rfl, rfl⟩ | ⟨rfl, h1, rfl, rfl, rfl⟩ | ⟨rfl, rfl, rfl, rfl⟩
  · have q1 : ((ec : Int) != 0) = true := by rw [bne_iff_ne]; omega
    clear hra hrb hrc
    go_wp2_with fail
    go_ret
    exact ⟨rfl, hB⟩
  · have q1 : ((ec : Int) != 0) = true := by rw [bne_iff_ne]; omega
    have wr1 : IntKind.i64.wrap ((ob : Int) + a.length) = (ob : Int) + a.length := IntWalk.i64_in _ (by omega)
    have wr2 : IntKind.i64.wrap ((ob : Int) + a.length + 1) = (ob : Int) + a.length + 1 := IntWalk.i64_in _ (by omega)
    have q2 : (((ob : Int) + ((a.length : Int) + 1)) == (ob : Int) + a.length + 1) = true := by rw [beq_iff_eq]; omega
    clear hra hrb hrc
    go_wp2_with fail
    go_ret
    exact ⟨rfl, hB⟩
  · rw [List.length_append, List.length_map] at hcc ⊢
    obtain ⟨na, hna⟩ : ∃ na, ta.length = na := ⟨_, rfl⟩
    obtain ⟨nb, hnb⟩ : ∃ nb, tb.length = nb := ⟨_, rfl⟩
    rw [hna] at hTa hca hcc ⊢
    rw [hnb] at hTb hcb hcc ⊢
    have hk1 : ((((ta ++ tb.map (shT (a.length + 1))).map raw).take na).map ks) = (ta.map raw).map ks := by
      rw [raw_app, List.take_append_of_le_length (by simp [hna]), List.take_of_length_le (by simp [hna])]
    have hk2 : ((((ta ++ tb.map (shT (a.length + 1))).map raw).drop na).map ks) = (tb.map raw).map ks := by
      rw [raw_app, List.drop_append_of_le_length (by simp [hna]), List.drop_eq_nil_of_le (by simp [hna]), List.nil_append, ks_shift]
    have hn1 : (((ta ++ tb.map (shT (a.length + 1))).map raw).take na).length = na := by simp [hna]
    have hn2 : (((ta ++ tb.map (shT (a.length + 1))).map raw).drop na).length = nb := by simp [hna, hnb]
    have q0 : ((na : Int) + nb != na + nb) = false := by simp
    go_wp2_with fail
    (with_reducible refine (alike_yes Gc Ga cc ca na _ _ hn1 (by omega) hk1 _ (hrc.take na) hra).mono ?_); rintro e w5 ⟨rfl, m1, hw⟩
    replace hra := hra.drewN m1
    replace hrb := hrb.drewN m1
    replace hrc := hrc.drewN m1
    replace hB := below_drewN hB m1
    rw [← hw] at hra hrb hrc hB
    clear hw
    have Hn2 := Lib.hid hn2
    have Hk2 := Lib.hid hk2
    have hat : Hid (∀ k x, ((ta ++ tb.map (shT (a.length + 1))).map raw)[k]? = some x → (k < na → ∃ y, (ta.map raw)[k]? = some y ∧ x.o = y.o) ∧ (na ≤ k → ∃ y : Tk, (tb.map raw)[k - na]? = some (raw y) ∧ y.o ≤ 2000 ∧ x.o = (y.o : Int) + a.length + 1)) := fun k x hk => by
      refine ⟨fun hlt => ?_, fun hge => ?_⟩
      · rw [raw_app, List.getElem?_append_left (by simp [hna]; omega)] at hk
        exact ⟨x, hk, rfl⟩
      · rw [raw_app, List.getElem?_append_right (by simp [hna]; omega), List.length_map, hna, List.getElem?_map, List.getElem?_map] at hk
        obtain ⟨z, hz, rfl⟩ := Option.map_eq_some_iff.1 hk
        obtain ⟨y, hy, rfl⟩ := Option.map_eq_some_iff.1 hz
        refine ⟨y, by rw [List.getElem?_map, hy]; rfl, ?_, ?_⟩
        · have := htbo y (List.mem_of_getElem? hy); omega
        · show ((y.o + (a.length + 1) : Nat) : Int) = _
          omega
    have hlen : ((ta ++ tb.map (shT (a.length + 1))).map raw).length = na + nb := by simp [hna, hnb]
    have htal : (ta.map raw).length = na := by simp [hna]
    have htbl : (tb.map raw).length = nb := by simp [hnb]
    generalize (ta ++ tb.map (shT (a.length + 1))).map raw = tc at *
    generalize ta.map raw = ra at *
    generalize tb.map raw = rb at *
    clear hn1 hk1 hn2 hk2 htbo hna hnb
    by_cases hcn : cc = na
    · have hnil : tc.drop na = [] := List.eq_nil_of_length_eq_zero (by rw [List.length_drop]; omega)
      have hr0 : isT Gc (tc.drop na) w5 := by rw [hnil]; exact isT.nil _ _
      go_wp2_with fail
      (with_reducible refine (alike_yes Gc Gb 0 cb nb _ _ Hn2.out (by omega) Hk2.out _ hr0 hrb).mono ?_); rintro e w6 ⟨rfl, m2, hw⟩
      replace hra := hra.drewN m2
      replace hrb := hrb.drewN m2
      replace hrc := hrc.drewN m2
      replace hB := below_drewN hB m2
      rw [← hw] at hra hrb hrc hB
      clear hw hr0 Hn2 Hk2
      go_wp2_with fail
      go_loopw [14] (fun i wr => ∃ k : Nat, k ≤ na + nb ∧ i = .int .i64 k ∧ isT Gc tc wr ∧ isT Ga ra wr ∧ isT Gb rb wr ∧ Below w.heap.size w wr)
        (fun i _ => na + nb - (intOf i).toNat)
      case atStart => exact ⟨0, Nat.zero_le _, rfl, hrc, hra, hrb, hB⟩
      case round =>
        clear hrc hra hrb hB
        obtain ⟨k, hk, rfl, hrc, hra, hrb, hB⟩ := hrel
        by_cases hlt : k < na + nb
        · have hgk : tc[k]? = some (tc[k]'(by omega)) := List.getElem?_eq_getElem (by omega)
          obtain ⟨x, hx⟩ : ∃ x, tc[k]'(by omega) = x := ⟨_, rfl⟩
          rw [hx] at hgk
          obtain ⟨h1, h2⟩ := hat.out k x hgk
          have HDr : Hid (∀ q, isT Gc tc (wr.drewN q) ∧ isT Ga ra (wr.drewN q) ∧ isT Gb rb (wr.drewN q) ∧ Below w.heap.size w (wr.drewN q)) := fun q => ⟨hrc.drewN q, hra.drewN q, hrb.drewN q, below_drewN hB q⟩
          obtain ⟨bc, oc, rfl, hlc, hcc2⟩ := hrc (by rintro rfl; simp at hgk)
          obtain ⟨_, _, d3⟩ := hcc2 k x hgk
          have hki : (k : Int) < (na : Int) + nb := by omega
          by_cases hkn : k < na
          · obtain ⟨y, hy, hxy⟩ := h1 hkn
            obtain ⟨b1, o1, rfl, hl1, hr1⟩ := hra (by rintro rfl; simp at hy)
            obtain ⟨_, _, e3⟩ := hr1 k y hy
            rw [hxy] at d3
            have hkd : decide (k < na) = true := by simp; omega
            have hkd2 : decide (na ≤ k) = false := by simp; omega
            have hki2 : (k : Int) < na := by omega
            have hq : (y.o != y.o) = false := by simp
            clear hcc2 hr1 hrb h1 h2 hgk hx hy hxy hat hlen htal htbl
            go_wp2_with fail
            clear hS hS2 hbb hob hca hcb hcc hcn hB
            go_quiet (fail)
            go_wp2_with fail
            go_roundw
            case rel => exact ⟨k + 1, by omega, by go_num, (HDr.out _).1, (HDr.out _).2.1, (HDr.out _).2.2.1, (HDr.out _).2.2.2⟩
            case measure => simp [intOf]; omega
          · obtain ⟨y, hy, hyo, hxy⟩ := h2 (by omega)
            obtain ⟨b1, o1, rfl, hl1, hr1⟩ := hrb (by rintro rfl; simp at hy)
            obtain ⟨_, _, e3⟩ := hr1 (k - na) _ hy
            rw [hxy] at d3
            have hkd : decide (k < na) = false := by simp; omega
            have hkd2 : decide (na ≤ k) = true := by simp; omega
            have hsub : (k : Int) - na = ((k - na : Nat) : Int) := by omega
            have hki2 : ((k - na : Nat) : Int) < nb := by omega
            have hyr : (raw y).o = (y.o : Int) := rfl
            rw [hyr] at e3
            have hq : (((y.o : Int) + a.length + 1) != ((y.o : Int) + a.length + 1)) = false := by simp
            have wr1 : IntKind.i64.wrap ((y.o : Int) + a.length) = (y.o : Int) + a.length := IntWalk.i64_in _ (by omega)
            have wr2 : IntKind.i64.wrap ((y.o : Int) + a.length + 1) = (y.o : Int) + a.length + 1 := IntWalk.i64_in _ (by omega)
            clear hcc2 hr1 hra h1 h2 hgk hx hy hxy hat hlen htal htbl hyr
            generalize k - na = kn at *
            go_wp2_with fail
            clear hS hS2 hbb hob hca hcb hcc hcn hB
            go_quiet (fail)
            go_wp2_with fail
            go_roundw
            case rel => exact ⟨k + 1, by omega, by go_num, (HDr.out _).1, (HDr.out _).2.1, (HDr.out _).2.2.1, (HDr.out _).2.2.2⟩
            case measure => simp [intOf]; omega
        · clear hrc hra hrb hat
          go_wp2_with fail
          go_ret
          exact ⟨rfl, hB⟩
    · have hr0 : isT (Gc.map fun x => x.add (na * 3)) (tc.drop na) w5 := by
        by_cases hne : tc.drop na = []
        · rw [hne]; exact isT.nil _ _
        · obtain ⟨b', off', rfl, _, _⟩ := hrc (by rintro rfl; simp at hne)
          have := hrc.drop na
          rw [Option.map_some, Addr.add_lit]
          exact this
      go_wp2_with fail
      (with_reducible refine (alike_yes _ Gb _ cb nb _ _ Hn2.out (by omega) Hk2.out _ hr0 hrb).mono ?_); rintro e w6 ⟨rfl, m2, hw⟩
      replace hra := hra.drewN m2
      replace hrb := hrb.drewN m2
      replace hrc := hrc.drewN m2
      replace hB := below_drewN hB m2
      rw [← hw] at hra hrb hrc hB
      clear hw hr0 Hn2 Hk2
      go_wp2_with fail
      go_loopw [14] (fun i wr => ∃ k : Nat, k ≤ na + nb ∧ i = .int .i64 k ∧ isT Gc tc wr ∧ isT Ga ra wr ∧ isT Gb rb wr ∧ Below w.heap.size w wr)
        (fun i _ => na + nb - (intOf i).toNat)
      case atStart => exact ⟨0, Nat.zero_le _, rfl, hrc, hra, hrb, hB⟩
      case round =>
        clear hrc hra hrb hB
        obtain ⟨k, hk, rfl, hrc, hra, hrb, hB⟩ := hrel
        by_cases hlt : k < na + nb
        · have hgk : tc[k]? = some (tc[k]'(by omega)) := List.getElem?_eq_getElem (by omega)
          obtain ⟨x, hx⟩ : ∃ x, tc[k]'(by omega) = x := ⟨_, rfl⟩
          rw [hx] at hgk
          obtain ⟨h1, h2⟩ := hat.out k x hgk
          have HDr : Hid (∀ q, isT Gc tc (wr.drewN q) ∧ isT Ga ra (wr.drewN q) ∧ isT Gb rb (wr.drewN q) ∧ Below w.heap.size w (wr.drewN q)) := fun q => ⟨hrc.drewN q, hra.drewN q, hrb.drewN q, below_drewN hB q⟩
          obtain ⟨bc, oc, rfl, hlc, hcc2⟩ := hrc (by rintro rfl; simp at hgk)
          obtain ⟨_, _, d3⟩ := hcc2 k x hgk
          have hki : (k : Int) < (na : Int) + nb := by omega
          by_cases hkn : k < na
          · obtain ⟨y, hy, hxy⟩ := h1 hkn
            obtain ⟨b1, o1, rfl, hl1, hr1⟩ := hra (by rintro rfl; simp at hy)
            obtain ⟨_, _, e3⟩ := hr1 k y hy
            rw [hxy] at d3
            have hkd : decide (k < na) = true := by simp; omega
            have hkd2 : decide (na ≤ k) = false := by simp; omega
            have hki2 : (k : Int) < na := by omega
            have hq : (y.o != y.o) = false := by simp
            clear hcc2 hr1 hrb h1 h2 hgk hx hy hxy hat hlen htal htbl
            go_wp2_with fail
            clear hS hS2 hbb hob hca hcb hcc hcn hB
            go_quiet (fail)
            go_wp2_with fail
            go_roundw
            case rel => exact ⟨k + 1, by omega, by go_num, (HDr.out _).1, (HDr.out _).2.1, (HDr.out _).2.2.1, (HDr.out _).2.2.2⟩
            case measure => simp [intOf]; omega
          · obtain ⟨y, hy, hyo, hxy⟩ := h2 (by omega)
            obtain ⟨b1, o1, rfl, hl1, hr1⟩ := hrb (by rintro rfl; simp at hy)
            obtain ⟨_, _, e3⟩ := hr1 (k - na) _ hy
            rw [hxy] at d3
            have hkd : decide (k < na) = false := by simp; omega
            have hkd2 : decide (na ≤ k) = true := by simp; omega
            have hsub : (k : Int) - na = ((k - na : Nat) : Int) := by omega
            have hki2 : ((k - na : Nat) : Int) < nb := by omega
            have hyr : (raw y).o = (y.o : Int) := rfl
            rw [hyr] at e3
            have hq : (((y.o : Int) + a.length + 1) != ((y.o : Int) + a.length + 1)) = false := by simp
            have wr1 : IntKind.i64.wrap ((y.o : Int) + a.length) = (y.o : Int) + a.length := IntWalk.i64_in _ (by omega)
            have wr2 : IntKind.i64.wrap ((y.o : Int) + a.length + 1) = (y.o : Int) + a.length + 1 := IntWalk.i64_in _ (by omega)
            clear hcc2 hr1 hra h1 h2 hgk hx hy hxy hat hlen htal htbl hyr
            generalize k - na = kn at *
            go_wp2_with fail
            clear hS hS2 hbb hob hca hcb hcc hcn hB
            go_quiet (fail)
            go_wp2_with fail
            go_roundw
            case rel => exact ⟨k + 1, by omega, by go_num, (HDr.out _).1, (HDr.out _).2.1, (HDr.out _).2.2.1, (HDr.out _).2.2.2⟩
            case measure => simp [intOf]; omega
        · clear hrc hra hrb hat
          go_wp2_with fail
          go_ret
          exact ⟨rfl, hB⟩
end Sp
end Go.Proofs.Ytbpncbomcdpogaa
