/- LexForms: words. -/
import Derived.Test.YthjpcafnbniafaaFormB
namespace Go.Proofs.Ythjpcafnbniafaa
open Go.RowKit Go.Joins
namespace Fo
set_option maxRecDepth 100000 in
set_option maxHeartbeats 8000000 in
theorem word : first.p1 := by
  unfold first
  intro w l zz0 w1 r o L HF HP HO w2 c zz1 n hTl HN zz2 zz3 wr u2 u7 u8 u9 u10 u11 u23 u24 u25 u26 u27 u28 u29 u30 u31 u32 u33 zz4 zz5 zz6 zz7 zz8 zz9 zz10 zz11 zz12 zz13 zz14 zz15 zz16 zz17 zz18 zz19 zz20 zz21 zz22 zz23 zz24 zz25 u56 u57 u58 u59 u60 u61 u62 u63 u64 u65 u66 u67 u68 u69 u70 u71 u72 u73 u74 u75 u76 u77 u78 u79 u80 u81 u82 u83 u84 u85 u86 u87 u88 u89 u90 u91 u92 u93 u94 u95 u96 u97 u98 u99 u100 u101 u102 u103 u104 u105 u106 u107 u108 u109 u110 u111 u112 u113 u114 u115 u116 u117 u118 u119 u120 u121 u122 u123 u124 u125 u126 u127 u128 u129 u130 u131 u132 u133 u134 u135 u136 u137 u138 u139 u140 u141 u142 u143 u144 u145 u146 u147 u148 u149 u150 u151 u152 u153 u154 u155 u156 u157 u158 u159 u160 u161 u162 u163 u164 u165 u166 u167 u168 u169 u170 u171 u172 u173 u174 u175 u176 u177 u178 u179 u180 u181 u182 u183 u184 u185 u186 u187 u188 u189 u190 u191 u192 u193 u194 u195 u196 u197 u198 u199 u200 u201 u202 u203 u204 u205 u206 u207 u208 u209 u210 u211 u212 u213 u214 u215 u216 u217 u218 u219 i hi hlt x hx c1 r1 b off hbl d3' hii hdi SX d2' HR zz26 zz27 zz28 HS HFm HSX u34 u35 u36 u37 u38 u39 u40 u41 u42 u43 u44 u45 u46 u47 u48 u49 u50 u51 u52 u53 u54 u55 hwc zz29 zz30 HX m hsz HM hm1 hm4 hgk zz31 zz32 zz34 hk hl1 hall h24 d1' HK zz33
  have HA : Hid (∀ (j : Nat) (z : BitVec 8), x.s[j]? = some z → (j = 0 → isLet z = true) ∧ (isIn z = true)) := fun j z hz => by
    rw [HS.out] at hz
    cases j with
    | zero => simp at hz; subst hz; exact ⟨fun _ => hl1, by unfold isIn; rw [hl1]; rfl⟩
    | succ j => exact ⟨fun h => by omega, hall z (List.mem_of_getElem? (by simpa using hz))⟩
  have hm24 : m ≤ 24 := by rw [← HM.out]; exact h24
  have hd24 : decide ((m : Int) ≤ 24) = true := by simp; omega
  have hdpos : decide ((0 : Int) < m) = true := by simp; omega
  have hdp2 : decide (0 < m) = true := by simp; omega
  clear hk hall h24 hl1
  go_wp2_with fail
  go_loopw [8, 9] (fun g j wx => ∃ k : Nat, k ≤ m ∧ j = .int .i64 k ∧ g = .bool true ∧ wx = wr)
    (fun _ j _ => m - (intOf j).toNat)
  case atStart => exact ⟨0, Nat.zero_le _, rfl, by first | rfl | rw [hdp2], rfl⟩
  case round =>
    obtain ⟨j, hj, rfl, rfl, rfl⟩ := hrel
    by_cases hjm : j < m
    · have hgz : x.s[j]? = some (x.s[j]'(by have := HM.out; omega)) := List.getElem?_eq_getElem _
      obtain ⟨z, hz⟩ : ∃ z, x.s[j]'(by have := HM.out; omega) = z := ⟨_, rfl⟩
      rw [hz] at hgz
      have hix := fun W => HX.out j z hgz W
      obtain ⟨a1, a2⟩ := HA.out j z hgz
      have hdj : decide (j < m) = true := by simp; omega
      have hcl : (97 ≤ z.toNat ∧ z.toNat ≤ 122) ∨ (65 ≤ z.toNat ∧ z.toNat ≤ 90) ∨ (0 < j ∧ 48 ≤ z.toNat ∧ z.toNat ≤ 57) ∨ (0 < j ∧ z.toNat = 95) := by
        unfold isIn isLet isDig at a2
        unfold isLet at a1
        simp only [Bool.or_eq_true, decide_eq_true_eq, beq_iff_eq] at a1 a2
        rcases Nat.eq_zero_or_pos j with h0 | h0
        · rcases a1 h0 with h | h
          · exact .inl h
          · exact .inr (.inl h)
        · rcases a2 with ((h | h) | h) | h
          · exact .inl h
          · exact .inr (.inl h)
          · exact .inr (.inr (.inl ⟨h0, h⟩))
          · subst h; exact .inr (.inr (.inr ⟨h0, rfl⟩))
      clear hz hgz a1 a2 HA
      rcases hcl with ⟨h1, h2⟩ | ⟨h1, h2⟩ | ⟨h0, h1, h2⟩ | ⟨h0, h1⟩
      · have f1 : decide ((48 : Int) ≤ z.toNat) = true := by simp; omega
        have f2 : decide ((z.toNat : Int) ≤ 57) = false := by simp; omega
        have f3 : decide ((97 : Int) ≤ z.toNat) = true := by simp; omega
        have f4 : decide ((z.toNat : Int) ≤ 122) = true := by simp; omega
        go_wp2_with fail
        go_roundw
        case rel => exact ⟨j + 1, by omega, by go_num, rfl, by first | rfl | trivial⟩
        case measure => simp [intOf]; omega
      · have f1 : decide ((48 : Int) ≤ z.toNat) = true := by simp; omega
        have f2 : decide ((z.toNat : Int) ≤ 57) = false := by simp; omega
        have f3 : decide ((97 : Int) ≤ z.toNat) = false := by simp; omega
        have f4 : decide ((65 : Int) ≤ z.toNat) = true := by simp; omega
        have f5 : decide ((z.toNat : Int) ≤ 90) = true := by simp; omega
        go_wp2_with fail
        go_roundw
        case rel => exact ⟨j + 1, by omega, by go_num, rfl, by first | rfl | trivial⟩
        case measure => simp [intOf]; omega
      · have f1 : decide ((48 : Int) ≤ z.toNat) = true := by simp; omega
        have f2 : decide ((z.toNat : Int) ≤ 57) = true := by simp; omega
        have f3 : decide ((97 : Int) ≤ z.toNat) = false := by simp; omega
        have f4 : decide ((65 : Int) ≤ z.toNat) = false := by simp; omega
        have f5 : decide (0 < j) = true := by simp; omega
        have f6 : decide ((0 : Int) < j) = true := by simp; omega
        go_wp2_with fail
        go_roundw
        case rel => exact ⟨j + 1, by omega, by go_num, rfl, by first | rfl | trivial⟩
        case measure => simp [intOf]; omega
      · have f1 : decide ((48 : Int) ≤ z.toNat) = true := by simp; omega
        have f2 : decide ((z.toNat : Int) ≤ 57) = false := by simp; omega
        have f3 : decide ((97 : Int) ≤ z.toNat) = false := by simp; omega
        have f4 : decide ((65 : Int) ≤ z.toNat) = true := by simp; omega
        have f7 : decide ((z.toNat : Int) ≤ 90) = false := by simp; omega
        have f8 : ((z.toNat : Int) == 95) = true := by rw [beq_iff_eq]; omega
        have f5 : decide (0 < j) = true := by simp; omega
        have f6 : decide ((0 : Int) < j) = true := by simp; omega
        clear h1
        go_wp2_with fail
        go_roundw
        case rel => exact ⟨j + 1, by omega, by go_num, rfl, by first | rfl | trivial⟩
        case measure => simp [intOf]; omega
    · have hdj : decide (j < m) = false := by simp; omega
      clear HA
      go_wp2_with fail
      go_meet
      exact ⟨rfl, rfl⟩
end Fo
end Go.Proofs.Ythjpcafnbniafaa
