/- The contract of empty, where the answer is yes. -/
import Derived.Test.YtbpncbomcdpogaaBackM
namespace Go.Proofs.Ytbpncbomcdpogaa
open Go.RowKit Go.Joins

theorem emp_at {f : Bool} {l : List (BitVec 8)} {k : Nat} {c : BitVec 8} (h : l[k]? = some c) (he : emp f (l.drop k) = true) :
    (c = 10#8 ∧ emp false (l.drop (k + 1)) = true) ∨ (c ≠ 10#8 ∧ f = true ∧ emp true (l.drop (k + 1)) = true) ∨ (c ≠ 10#8 ∧ f = false ∧ c = 35#8 ∧ emp true (l.drop (k + 1)) = true) ∨ (c ≠ 10#8 ∧ f = false ∧ c ≠ 35#8 ∧ (c = 32#8 ∨ c = 9#8 ∨ c = 13#8) ∧ emp false (l.drop (k + 1)) = true) := by
  rw [drop_at h] at he
  unfold emp at he
  split at he
  · exact .inl ⟨‹_›, he⟩
  · rename_i h1
    split at he
    · exact .inr (.inl ⟨h1, ‹_›, he⟩)
    · rename_i h2
      have h2' : f = false := by simpa using h2
      split at he
      · exact .inr (.inr (.inl ⟨h1, h2', ‹_›, he⟩))
      · rename_i h3
        split at he
        · exact .inr (.inr (.inr ⟨h1, h2', h3, ‹_›, he⟩))
        · cases he

set_option maxRecDepth 100000 in
set_option maxHeartbeats 4000000 in
theorem empty_yes (l : List (BitVec 8)) (hl : l.length ≤ 1000000000) (he : emp false l = true) (w : World) :
    Calls Try.prog 20 #[.string (bstr l)] w fun e w' => e = .returned (.bool true) ∧ w' = w := by
  have hbs := bstr_size l
  have HX : Hid (∀ (k : Nat) (z : BitVec 8), l[k]? = some z → ∀ w, (Instr.index 9 (.string (bstr l)) (.int .i64 k)).run Try.prog w = .ok (U8 z) w) := fun k z h w => index_bstr l k z h w
  obtain ⟨S, hS⟩ : ∃ S, bstr l = S := ⟨_, rfl⟩
  rw [hS] at hbs HX ⊢
  clear hS
  go_enter Try.func20, Try.ntmps20
  go_wp2_with fail
  go_loopw [3, 4] (fun x i wr => ∃ (k : Nat) (f : Bool), k ≤ l.length ∧ i = .int .i64 k ∧ x = .bool f ∧ emp f (l.drop k) = true ∧ wr = w)
    (fun _ i _ => l.length - (intOf i).toNat)
  case atStart => exact ⟨0, false, Nat.zero_le _, rfl, rfl, he, rfl⟩
  case round =>
    obtain ⟨k, f, hk, rfl, rfl, hem, rfl⟩ := hrel
    by_cases hlt : k < l.length
    · have hgk : l[k]? = some l[k] := List.getElem?_eq_getElem hlt
      obtain ⟨z, hz⟩ : ∃ z, l[k] = z := ⟨_, rfl⟩
      rw [hz] at hgk
      have hi := fun W => HX.out k z hgk W
      have hq := beq_bv z 10#8
      rw [show (((10#8 : BitVec 8)).toNat : Int) = 10 from rfl] at hq
      have hq2 := beq_bv z 35#8
      rw [show (((35#8 : BitVec 8)).toNat : Int) = 35 from rfl] at hq2
      rcases emp_at hgk hem with ⟨h1, h2⟩ | ⟨h1, rfl, h2⟩ | ⟨h1, rfl, h3, h2⟩ | ⟨h1, rfl, h3, h4, h2⟩
      · rw [decide_eq_true h1] at hq
        have H2 := Lib.hid h2
        clear hem hgk hz h1 h2 hq2 HX
        go_wp2_with fail
        go_roundw
        case rel => exact ⟨k + 1, false, by omega, by go_num, rfl, H2.out, by first | rfl | trivial⟩
        case measure => simp [intOf]; omega
      · rw [decide_eq_false h1] at hq
        have H2 := Lib.hid h2
        clear hem hgk hz h1 h2 hq2 HX
        go_wp2_with fail
        go_roundw
        case rel => exact ⟨k + 1, true, by omega, by go_num, rfl, H2.out, by first | rfl | trivial⟩
        case measure => simp [intOf]; omega
      · rw [decide_eq_false h1] at hq
        rw [decide_eq_true h3] at hq2
        have H2 := Lib.hid h2
        clear hem hgk hz h1 h2 HX h3
        go_wp2_with fail
        go_roundw
        case rel => exact ⟨k + 1, true, by omega, by go_num, rfl, H2.out, by first | rfl | trivial⟩
        case measure => simp [intOf]; omega
      · rw [decide_eq_false h1] at hq
        rw [decide_eq_false h3] at hq2
        have H2 := Lib.hid h2
        have hzi := hi wr
        rcases h4 with rfl | rfl | rfl
        all_goals
          clear hem hgk hz h1 h2 HX h3 hzi hq hq2
          go_wp2_with fail
          go_roundw
          case rel => exact ⟨k + 1, false, by omega, by go_num, rfl, H2.out, by first | rfl | trivial⟩
          case measure => simp [intOf]; omega
    · go_wp2_with fail
      go_ret
      exact ⟨rfl, rfl⟩
end Go.Proofs.Ytbpncbomcdpogaa
