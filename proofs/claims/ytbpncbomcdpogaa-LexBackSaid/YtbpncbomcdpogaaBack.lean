/- LexBack: the joined tokens of a source are found again, and lie in it one after the other. -/
import Derived.Test.YtbpncbomcdpogaaAlike
import Derived.Test.YtbpncbomcdpogaaEmpty
namespace Go.Proofs.Ytbpncbomcdpogaa
open Go.RowKit Go.Joins

theorem raw_s (L : List Tk) : (L.map raw).map (·.s) = L.map (·.s) := by rw [List.map_map]; rfl
theorem raw_ks (L : List Tk) : (L.map raw).map ks = L.map ksT := by rw [List.map_map]; rfl

namespace Bk
set_option maxRecDepth 100000 in
set_option maxHeartbeats 8000000 in
theorem walk (S : ByteArray) (w : World) (hS : S.size ≤ maxLen) :
    Calls Try.prog 6 #[.string S] w fun e w' => e = .returned (.bool true) ∧ Below w.heap.size w w' := by
  obtain ⟨l, rfl⟩ := str_bstr S
  have HW : Hid (∀ W : World, _) := fun W => Aw.walk W
  have hbs := bstr_size l
  rw [hbs] at hS
  unfold maxLen at hS
  go_enter Try.func6, Try.ntmps6
  go_wp2_with fail
  (with_reducible refine (HW.out _).mono ?_); rintro e w1 ⟨rfl, hB⟩
  clear HW
  by_cases hlen : 4000 < l.length
  · have hd : decide ((4000 : Int) < l.length) = true := by simp; omega
    go_wp2_with fail
    go_ret
    exact ⟨rfl, hB⟩
  have hd : decide ((4000 : Int) < l.length) = false := by simp; omega
  by_cases he : lexE l = 0
  · have hf : (scan 0 l).find? bad = none := (lexE_zero (by omega)).1 he
    obtain ⟨hT, hO, hE⟩ := lexT_ok (l := l) (by omega) hf
    obtain ⟨b1, b2, b3⟩ := lex_back (l := l) (by omega) hf
    have HL : Hid (∀ W : World, _) := fun W => lex_n l (bstr l) rfl (scan 0 l) (scan 0 l).length 0 0 hT rfl hO hE W
    have hLl : (scan 0 l).length ≤ 4000 := Nat.le_trans (scan_len 0 l) (by omega)
    obtain ⟨M, hM⟩ : ∃ M, jn ((scan 0 l).map (·.s)) = M := ⟨_, rfl⟩
    have HJ : Hid (∀ (G : Option Addr) (c : Nat) (W : World), isT G ((scan 0 l).map raw) W → _) := fun G c W h => join_n G c (scan 0 l).length ((scan 0 l).map raw) (by simp) M (bstr M) (by rw [raw_s, hM]) rfl (by omega) (by rw [← hM]; omega) W h
    rw [hM] at b1 b2 b3
    have hkl : (lexT M).length = (scan 0 l).length := by
      have := congrArg List.length b2
      simpa using this
    have HL2 : Hid (∀ W : World, _) := fun W => lex_n M (bstr M) rfl (lexT M) (scan 0 l).length (lexO M) 0 rfl hkl rfl b1 W
    have hks : ((scan 0 l).map raw).map ks = ((lexT M).map raw).map ks := by rw [raw_ks, raw_ks, b2]
    have hn1 : ((scan 0 l).map raw).length = (scan 0 l).length := by simp
    have hst0 : scan 0 (l.drop 0) = (scan 0 l).drop 0 := rfl
    generalize (lexT M).map raw = rm at *
    generalize lexO M = om at *
    generalize bstr M = SM at *
    generalize scan 0 l = L at *
    clear hT hO hE b1 b2 b3 hM hkl hf he
    go_wp2_with fail
    (with_reducible refine (HL.out _).mono ?_); rintro e w2 ⟨G, c, rfl, hr, hc, hb2⟩
    replace hB := hB.trans (hb2.mono hB.size)
    clear hb2 HL hd
    go_wp2_with fail
    (with_reducible refine (HJ.out G c _ hr).mono ?_); rintro e w3 ⟨rfl, hb3⟩
    replace hB := hB.trans (hb3.mono hB.size)
    replace hr := hr.keep hb3
    clear hb3 HJ
    go_wp2_with fail
    (with_reducible refine (HL2.out _).mono ?_); rintro e w4 ⟨G2, c2, rfl, hr2, hc2, hb4⟩
    replace hB := hB.trans (hb4.mono hB.size)
    replace hr := hr.keep hb4
    clear hb4 HL2
    go_wp2_with fail
    (with_reducible refine (alike_yes G G2 c c2 _ _ _ hn1 (by omega) hks _ hr hr2).mono ?_); rintro e w5 ⟨rfl, m1, hw⟩
    replace hr := hr.drewN m1
    replace hB := below_drewN hB m1
    rw [← hw] at hr hB
    clear hw hr2 hks hc2
    go_wp2_with fail
    go_loopw [9, 10] (fun x i wr => ∃ k fr : Nat, k ≤ L.length ∧ fr ≤ l.length ∧ i = .int .i64 k ∧ x = .int .i64 fr ∧ scan fr (l.drop fr) = L.drop k ∧ isT G (L.map raw) wr ∧ Below w.heap.size w wr)
      (fun _ i _ => L.length - (intOf i).toNat)
    case atStart => exact ⟨0, 0, Nat.zero_le _, Nat.zero_le _, rfl, rfl, hst0, hr, hB⟩
    case round =>
      clear hr hB hst0
      obtain ⟨k, fr, hk, hfr, rfl, rfl, hsc, hr, hB⟩ := hrel
      by_cases hlt : k < L.length
      · have hgk : L[k]? = some L[k] := List.getElem?_eq_getElem hlt
        obtain ⟨x, hx⟩ : ∃ x, L[k] = x := ⟨_, rfl⟩
        rw [hx] at hgk
        rw [drop_at hgk] at hsc
        obtain ⟨s1, s2, s3, s4, s5⟩ := scan_step hsc
        have HDr : Hid (∀ q, isT G (L.map raw) (wr.drewN q) ∧ Below w.heap.size w (wr.drewN q)) := fun q => ⟨hr.drewN q, below_drewN hB q⟩
        have hgr : (L.map raw)[k]? = some (raw x) := by rw [List.getElem?_map, hgk]; rfl
        obtain ⟨b, off, rfl, hbl, hcell⟩ := hr (by rintro h; rw [h] at hgr; simp at hgr)
        obtain ⟨_, d2, d3⟩ := hcell k _ hgr
        have d2' : wr.cell? ⟨b, off + k * 3 + 1, none⟩ = some (.string (bstr x.s)) := d2
        have d3' : wr.cell? ⟨b, off + k * 3 + 2, none⟩ = some (.int .i64 (x.o : Int)) := d3
        have hsz := bstr_size x.s
        obtain ⟨tt, hto⟩ : ∃ tt, x.o + x.s.length = tt := ⟨_, rfl⟩
        have e1 : (x.o : Int) + x.s.length = (tt : Int) := by omega
        rw [hto] at s2 s5
        have hex := bstr_extract l x.o tt
        rw [show tt - x.o = x.s.length by omega, s3] at hex
        have hex2 := bstr_extract l fr x.o
        have hEm : Hid (∀ W : World, _) := fun W => empty_yes ((l.drop fr).take (x.o - fr)) (by rw [List.length_take, List.length_drop]; omega) s4 W
        generalize bstr ((l.drop fr).take (x.o - fr)) = E at hex2 hEm
        have hS5 := Lib.hid s5
        have hki : (k : Int) < L.length := by omega
        have f1 : decide (x.o < fr) = false := by simp; omega
        have f2 : decide (l.length < tt) = false := by simp; omega
        have f3 : ((bstr x.s).toList != (bstr x.s).toList) = false := by simp
        have hto0 : (0 : Int) ≤ tt := by omega
        have i1 : (tt : Int) ≤ l.length := by omega
        have i2 : (x.o : Int) ≤ tt := by omega
        have i3 : (x.o : Int) ≤ l.length := by omega
        have i4 : (fr : Int) ≤ x.o := by omega
        have hq2 : tt ≤ l.length := s2
        have hwt2 : IntKind.i64.wrap (tt : Int) = (tt : Int) := IntWalk.i64_in _ (by omega)
        have hwt : wrap64 (tt : Int) = (tt : Int) := IntWalk.wrap64_in _ ⟨by omega, by omega⟩
        clear hsc s3 s4 s5 hgk hx hgr hcell d2 d3 hr hB hS hlen hc
        generalize bstr x.s = SX at *
        go_wp2_with fail
        go_quiet (fail)
        go_wp2_with fail
        have hbn := below_drewN (Below.refl wr.heap.size wr) nq
        have d2q := (hbn.cell (p := ⟨b, off + k * 3 + 1, none⟩) hbl).trans d2'
        have d3q := (hbn.cell (p := ⟨b, off + k * 3 + 2, none⟩) hbl).trans d3'
        have hblq := Nat.lt_of_lt_of_le hbl hbn.size
        have HDq : Hid (∀ q, isT (some ⟨b, off, none⟩) (L.map raw) ((wr.drewN nq).drewN q) ∧ Below w.heap.size w ((wr.drewN nq).drewN q)) := fun q => ⟨(HDr.out nq).1.drewN q, below_drewN (HDr.out nq).2 q⟩
        clear hbn d2' d3' hbl HDr e1
        generalize wr.drewN nq = wq at *
        go_quiet (first | (go_at_call 20; exact Calls.quiet_of_same (hEm.out _)))
        go_wp2_with fail
        go_roundw
        case rel => exact ⟨k + 1, tt, by omega, hq2, by go_num, rfl, hS5.out, (HDq.out _).1, (HDq.out _).2⟩
        case measure => simp [intOf]; omega
      · obtain rfl : k = L.length := by omega
        rw [List.drop_length] at hsc
        have hem := scan_fin hsc
        have hex := bstr_extract l fr l.length
        rw [List.take_of_length_le (by rw [List.length_drop]; omega)] at hex
        have hEm : Hid (∀ W : World, _) := fun W => empty_yes (l.drop fr) (by rw [List.length_drop]; omega) hem W
        generalize bstr (l.drop fr) = E at hex hEm
        have i1 : (fr : Int) ≤ l.length := by omega
        clear hsc hem hr hS hlen hc
        go_wp2_with fail
        (with_reducible refine (hEm.out _).mono ?_); rintro e w6 ⟨rfl, rfl⟩
        go_wp2_with fail
        go_ret
        exact ⟨rfl, hB⟩
  · obtain ⟨hT, hO, hE⟩ := lex_err (l := l) (by omega) he
    have HL : Hid (∀ W : World, _) := fun W => lex_n l (bstr l) rfl [] 0 (lexO l) (lexE l) hT rfl rfl rfl W
    generalize lexE l = ee at *
    generalize lexO l = oo at *
    have hd2 : ((ee : Int) != 0) = true := by rw [bne_iff_ne]; omega
    have hd3 : decide (oo < l.length) = true := by simp; omega
    go_wp2_with fail
    (with_reducible refine (HL.out _).mono ?_); rintro e w2 ⟨G, c, rfl, -, -, hb2⟩
    replace hB := hB.trans (hb2.mono hB.size)
    clear hb2 HL hd hT
    rcases hE with rfl | rfl | rfl
    all_goals
      go_wp2_with fail
      go_ret
      exact ⟨rfl, hB⟩
end Bk
end Go.Proofs.Ytbpncbomcdpogaa
