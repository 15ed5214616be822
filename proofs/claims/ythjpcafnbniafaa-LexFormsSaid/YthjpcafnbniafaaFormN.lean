/- LexForms: numbers. -/
import Derived.Test.YthjpcafnbniafaaFormB
namespace Go.Proofs.Ythjpcafnbniafaa
open Go.RowKit Go.Joins
namespace Fo
set_option maxRecDepth 100000 in
set_option maxHeartbeats 8000000 in
theorem num : first.p2 := by
  unfold first
  intro w l zz0 w1 r o L HF HP HO w2 c zz1 n hTl HN zz2 zz3 wr u2 u7 u8 u9 u10 u11 u23 u24 u25 u26 u27 u28 u29 u30 u31 u32 u33 zz4 zz5 zz6 zz7 zz8 zz9 zz10 zz11 zz12 zz13 zz14 zz15 zz16 zz17 zz18 zz19 zz20 zz21 zz22 zz23 zz24 zz25 u56 u57 u58 u59 u60 u61 u62 u63 u64 u65 u66 u67 u68 u69 u70 u71 u72 u73 u74 u75 u76 u77 u78 u79 u80 u81 u82 u83 u84 u85 u86 u87 u88 u89 u90 u91 u92 u93 u94 u95 u96 u97 u98 u99 u100 u101 u102 u103 u104 u105 u106 u107 u108 u109 u110 u111 u112 u113 u114 u115 u116 u117 u118 u119 u120 u121 u122 u123 u124 u125 u126 u127 u128 u129 u130 u131 u132 u133 u134 u135 u136 u137 u138 u139 u140 u141 u142 u143 u144 u145 u146 u147 u148 u149 u150 u151 u152 u153 u154 u155 u156 u157 u158 u159 u160 u161 u162 u163 u164 u165 u166 u167 u168 u169 u170 u171 u172 u173 u174 u175 u176 u177 u178 u179 u180 u181 u182 u183 u184 u185 u186 u187 u188 u189 u190 u191 u192 u193 u194 u195 u196 u197 u198 u199 u200 u201 u202 u203 u204 u205 u206 u207 u208 u209 u210 u211 u212 u213 u214 u215 u216 u217 u218 u219 i hi hlt x hx c1 r1 b off hbl d3' hii hdi SX d2' HR zz26 zz27 zz28 HS HFm HSX u34 u35 u36 u37 u38 u39 u40 u41 u42 u43 u44 u45 u46 u47 u48 u49 u50 u51 u52 u53 u54 u55 hwc zz29 zz30 HX m hsz HM hm1 hm4 hgk zz31 zz32 zz34 hk hnum d1' HK zz33
  obtain ⟨hdig, hfin⟩ := num_form hnum
  replace hfin := hfin c1 r1 HS.out
  have HA : Hid (∀ (j : Nat) (z : BitVec 8), x.s[j]? = some z → isDig z = true) := fun j z hz => hdig z (List.mem_of_getElem? hz)
  have hdpos : decide ((0 : Int) < m) = true := by simp; omega
  have hdp2 : decide (0 < m) = true := by simp; omega
  have hTU : SX.toList = U x.s := by rw [← HSX.out]; exact toList_U _
  replace hTU := Lib.hid hTU
  replace hfin := Lib.hid hfin
  clear hk hdig hnum
  go_wp2_with fail
  go_loopw [8, 9] (fun g j wx => ∃ k : Nat, k ≤ m ∧ j = .int .i64 k ∧ g = .bool true ∧ wx = wr)
    (fun _ j _ => m - (intOf j).toNat)
  case atStart => exact ⟨0, Nat.zero_le _, rfl, by first | rfl | rw [hdp2], rfl⟩
  case round =>
    obtain ⟨j, hj, rfl, rfl, rfl⟩ := hrel
    by_cases hjm : j < m
    · have hgz : x.s[j]? = some (x.s[j]'(by have := HM.out; omega)) := List.getElem?_eq_getElem _
      obtain ⟨z, hz⟩ : ∃ z, x.s[j]'(by have := HM.out; omega) = z := ⟨_, rfl⟩
      rw [hz] at hgz
      have hix := fun W => HX.out j z hgz W
      obtain ⟨h1, h2⟩ := isDig_ge (HA.out j z hgz)
      have hdj : decide (j < m) = true := by simp; omega
      clear hz hgz HA
      have f1 : decide ((48 : Int) ≤ z.toNat) = true := by simp; omega
      have f2 : decide ((z.toNat : Int) ≤ 57) = true := by simp; omega
      have f3 : decide ((97 : Int) ≤ z.toNat) = false := by simp; omega
      have f4 : decide ((65 : Int) ≤ z.toNat) = false := by simp; omega
      go_wp2_with fail
      go_roundw
      case rel => exact ⟨j + 1, by omega, by go_num, rfl, by first | rfl | trivial⟩
      case measure => simp [intOf]; omega
    · have hdj : decide (j < m) = false := by simp; omega
      have hi0 : ∀ W, (Instr.index 9 (.string SX) (.int .i64 0)).run Try.prog W = .ok (U8 c1) W := fun W => by
        have := HX.out 0 c1 (by rw [HS.out]; rfl) W
        rwa [show ((0 : Nat) : Int) = 0 from rfl] at this
      have hm0 : (0 : Int) < m := by omega
      clear HA
      rcases hfin.out with ⟨g1, g2⟩ | ⟨g1, g2⟩ | ⟨g1, g2, g3⟩
      · have f1 : decide ((m : Int) < 10) = true := by
          have := HM.out
          rw [HS.out, g2] at this
          simp at this; simp; omega
        have f2 : ((c1.toNat : Int) != 48) = false := by rw [g1]; decide
        have f3 : (SX.toList == [48]) = true := by rw [hTU.out, HS.out, g1, g2]; decide
        clear g1 g2
        go_wp2_with fail
        go_meet
        exact ⟨rfl, rfl⟩
      · have f1 : decide ((m : Int) < 10) = true := by
          have := HM.out
          simp; omega
        have f2 : ((c1.toNat : Int) != 48) = true := by
          rw [bne_iff_ne]
          intro h
          exact g1 (BitVec.eq_of_toNat_eq (by show c1.toNat = 48; omega))
        clear g1 g2
        go_wp2_with fail
        go_meet
        exact ⟨rfl, rfl⟩
      · have hme : m = 10 := by have := HM.out; omega
        have f1 : decide ((m : Int) < 10) = false := by simp; omega
        have f4 : ((m : Int) == 10) = true := by rw [beq_iff_eq]; omega
        have f2 : ((c1.toNat : Int) != 48) = true := by
          rw [bne_iff_ne]
          intro h
          exact g1 (BitVec.eq_of_toNat_eq (by show c1.toNat = 48; omega))
        have f5 : (Op.bytesLess SX.toList [49, 48, 55, 51, 55, 52, 49, 56, 50, 52] || SX.toList == [49, 48, 55, 51, 55, 52, 49, 56, 50, 52]) = true := by rw [hTU.out]; exact g3
        clear g1 g2 g3 hme
        go_wp2_with fail
        go_meet
        exact ⟨by first | rfl | rw [f5] | simp [f5], rfl⟩
end Fo
end Go.Proofs.Ythjpcafnbniafaa
