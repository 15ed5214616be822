/- near and lays. -/
import Derived.Test.YtdhofaiogbpjpaaKept
import Derived.Test.YtdhofaiogbpjpaaRLay
import Derived.Test.YtdhofaiogbpjpaaRVal
import Derived.Test.YtdhofaiogbpjpaaRefT
namespace Go.Proofs.Ytdhofaiogbpjpaa
open Go.RowKit Go.Joins
namespace Me
set_option maxRecDepth 100000 in
set_option maxHeartbeats 8000000 in
theorem near_any (A : Option Addr) (c n : Nat) (L : List Rg) (hn : L.length = n) (hn1 : n ≤ 100000) (w : World) (hA : isG A L w) :
    Calls Try.prog 16 #[.slice A n c] w fun e w' => (e = .returned (.bool false) ∨ e = .returned (.bool true)) ∧ w' = w := by
  have HA := Lib.hid hA
  have HL := Lib.hid hn
  clear hA hn
  go_enter Try.func16, Try.ntmps16
  go_wp2_with fail
  go_loopw [3] (fun i wr => ∃ k : Nat, k ≤ n ∧ i = .int .i64 k ∧ wr = w)
    (fun i _ => n - (intOf i).toNat)
  case atStart => exact ⟨0, Nat.zero_le _, rfl, rfl⟩
  case round =>
    obtain ⟨k, hk, rfl, rfl⟩ := hrel
    by_cases hlt : k < n
    · have hx : L[k]? = some (L[k]'(by rw [HL.out]; exact hlt)) := List.getElem?_eq_getElem _
      obtain ⟨x, hxe⟩ : ∃ x, L[k]'(by rw [HL.out]; exact hlt) = x := ⟨_, rfl⟩
      rw [hxe] at hx
      obtain ⟨ab, ao, rfl, hal, c0, c1, c2⟩ := isG.at HA.out hx
      have hdl : decide ((k : Int) < n) = true := by simp; omega
      clear hx hxe
      obtain ⟨p, b, s⟩ := x
      simp only at *
      by_cases h1 : b < -1073741824
      · have e1 : decide (b < -1073741824) = true := decide_eq_true h1
        go_wp2_with fail
        go_ret
        exact ⟨.inl rfl, rfl⟩
      have e1 : decide (b < -1073741824) = false := decide_eq_false h1
      by_cases h2 : 1073741824 < b
      · have e2 : decide (1073741824 < b) = true := decide_eq_true h2
        go_wp2_with fail
        go_ret
        exact ⟨.inl rfl, rfl⟩
      have e2 : decide (1073741824 < b) = false := decide_eq_false h2
      by_cases h3 : s < -1073741824
      · have e3 : decide (s < -1073741824) = true := decide_eq_true h3
        go_wp2_with fail
        go_ret
        exact ⟨.inl rfl, rfl⟩
      have e3 : decide (s < -1073741824) = false := decide_eq_false h3
      by_cases h4 : 1073741824 < s
      · have e4 : decide (1073741824 < s) = true := decide_eq_true h4
        go_wp2_with fail
        go_ret
        exact ⟨.inl rfl, rfl⟩
      have e4 : decide (1073741824 < s) = false := decide_eq_false h4
      go_wp2_with fail
      go_roundw
      case rel => exact ⟨k + 1, by omega, by go_num, by first | rfl | trivial⟩
      case measure => simp [intOf]; omega
    · obtain rfl : k = n := by omega
      have hdl : decide ((k : Int) < k) = false := by simp
      go_wp2_with fail
      go_ret
      exact ⟨.inr rfl, rfl⟩
set_option maxRecDepth 100000 in
set_option maxHeartbeats 8000000 in
theorem lays_any (s : ByteArray) (mem0 fr : Int) (A : Option Addr) (c n : Nat) (Ps : List Pt) (hn : Ps.length = n) (B : Option Addr) (cb k : Nat) (L : List Rg) (hk : L.length = k) (hk1 : k ≤ 200) (hbd : Bd L) (mem : Int) (w : World) (hA : isP A Ps w) (hB : isG B L w) :
    Calls Try.prog 11 #[mdV s mem0 fr A n c, .slice B k cb, .int .i64 mem] w fun e w' => e = .returned (.bool true) ∧ Below w.heap.size w w' := by
  have HLe : Hid (∀ W, Below w.heap.size w W → _) := fun W h => lent_any B cb k L hk (by omega) W (hB.keep h)
  have HLy : Hid (∀ W, Below w.heap.size w W → _) := fun W h => layout_any s mem0 fr A c n Ps hn W (hA.keep h)
  have HRl : Hid (∀ W, Below w.heap.size w W → _) := fun W h => rlayout_any s mem0 fr A c n Ps hn W (hA.keep h)
  have HSm : Hid (∀ (X Y : Option Addr) (cx cy m : Nat) (M : List Rg) (W : World), M.length = m → m ≤ 6 → isG X M W → isG Y M W → _) := fun X Y cx cy m M W h1 h2 h3 h4 => sameR_any X Y cx cy m m M M h1 h1 (by omega) (by omega) W h3 h4
  have HVa : Hid (∀ (G : Option Addr) (cg : Nat) (W : World), k ≤ cg → isG G L W → _) := fun G cg W h1 h2 => valid_any G cg k L hk h1 hbd mem W h2
  have HRv : Hid (∀ W, Below w.heap.size w W → _) := fun W h => rvalid_any B cb k L hk hbd mem W (hB.keep h)
  have HKe : Hid (∀ (G : Option Addr) (cg : Nat) (W : World), k + 12 ≤ cg → isG G (L ++ marks 12) W → Below w.heap.size w W → _) := fun G cg W h1 h2 h3 => kept_any G B cg cb k L hk (by omega) h1 W h2 (hB.keep h3)
  have hlen := Lib.hid (layR_len mem0 (Ps.map Pt.z))
  have hB0 := (Below.refl w.heap.size w).alloc (Nat.le_refl _) (.cells #[.string s, .int .i64 mem0, .int .i64 fr, .slice A n c] 24)
  have bM := BoxN.new w 24 #[.string s, .int .i64 mem0, .int .i64 fr, .slice A n c]
  clear hA hB hn hk hbd
  generalize vldR L mem = vr at *
  generalize layR mem0 (Ps.map Pt.z) = lr at *
  obtain ⟨lm, le⟩ := lr
  simp only [mdV] at *
  have HG0 := Lib.hid (HLe.out _ hB0)
  go_enter Try.func11, Try.ntmps11
  go_wp2_with fail
  (with_reducible refine (HG0.out).mono ?_); rintro _ w1 ⟨G, cg, rfl, hcg, hG, hb⟩
  have hB1 := hB0.trans (hb.mono hB0.size)
  replace bM := bM.keep hb
  clear hb HG0 hB0 HLe
  have hl := bM.lt
  have m0 := bM.cell 0
  have m1 := bM.cell 1
  have m2 := bM.cell 2
  have m3 := bM.cell 3
  simp at m0 m1 m2 m3
  go_wp2_with fail
  (with_reducible refine (HLy.out _ hB1).mono ?_); rintro _ w2 ⟨G1, c1, rfl, hG1, hb⟩
  have hB2 := hB1.trans (hb.mono hB1.size)
  replace bM := bM.keep hb
  replace hG := hG.keep hb
  clear hb hB1 HLy hl m0 m1 m2 m3
  have hl := bM.lt
  have m0 := bM.cell 0
  have m1 := bM.cell 1
  have m2 := bM.cell 2
  have m3 := bM.cell 3
  simp at m0 m1 m2 m3
  go_wp2_with fail
  (with_reducible refine (HRl.out _ hB2).mono ?_); rintro _ w3 ⟨G2, c2, rfl, hG2, hb⟩
  have hB3 := hB2.trans (hb.mono hB2.size)
  replace hG := hG.keep hb
  replace hG1 := hG1.keep hb
  clear hb hB2 HRl hl m0 m1 m2 m3 bM
  have HS1 := Lib.hid (HSm.out G1 G2 c1 c2 _ lm w3 rfl hlen.out hG1 hG2)
  simp only at *
  obtain ⟨q, hq⟩ : ∃ q, lm.length = q := ⟨_, rfl⟩
  rw [hq] at HS1 ⊢
  clear HSm hlen hG1 hG2 hq
  simp only [decide_true] at HS1
  go_wp2_with fail
  (with_reducible refine (HS1.out).mono ?_); rintro _ w4 ⟨rfl, hb⟩
  have hB4 := hB3.trans (hb.mono hB3.size)
  replace hG := hG.keep hb
  clear hb hB3 HS1
  have HV1 := Lib.hid (HVa.out G cg w4 (by omega) (isG.take' hG))
  clear HVa
  go_wp2_with fail
  (with_reducible refine (HV1.out).mono ?_); rintro _ w5 ⟨rfl, hb⟩
  have hB5 := hB4.trans (hb.mono hB4.size)
  replace hG := hG.keep hb
  clear hb hB4 HV1
  go_wp2_with fail
  (with_reducible refine (HRv.out _ hB5).mono ?_); rintro _ w6 ⟨rfl, hb⟩
  have hB6 := hB5.trans (hb.mono hB5.size)
  replace hG := hG.keep hb
  clear hb hB5 HRv
  have HK1 := Lib.hid (HKe.out G cg w6 hcg hG hB6)
  have hvv : (vr == vr) = true := by simp
  clear HKe hG
  go_wp2_with fail
  (with_reducible refine (HK1.out).mono ?_); rintro _ w7 ⟨rfl, hb⟩
  have hB7 := hB6.trans (hb.mono hB6.size)
  go_wp2_with fail
  go_ret
  exact ⟨rfl, hB7⟩
end Me
end Go.Proofs.Ytdhofaiogbpjpaa
