/- LexJoins: Join and Place agree with the reference. -/
import Derived.Test.YtbpncbomcdpogaaLexes
namespace Go.Proofs.Ytbpncbomcdpogaa
open Go.RowKit Go.Joins

theorem jn_sum : ∀ (L : List RTk) (k : Nat), k ≤ L.length → (jn (L.map (·.s))).length ≤ (L.map fun x => x.s.length + 1).sum := by
  intro L _ _
  unfold jn
  rw [List.length_drop]
  have : ∀ M : List RTk, ((M.map (·.s)).flatMap fun s => 32#8 :: s).length = (M.map fun x => x.s.length + 1).sum := by
    intro M
    induction M with
    | nil => rfl
    | cons x M ih => simp only [List.map_cons, List.flatMap_cons, List.length_append, List.length_cons, List.sum_cons, ih]
  rw [this]; omega
def lenS (L : List RTk) : Nat := (L.map fun x => x.s.length).sum
theorem lenS_snoc (L : List RTk) (x : RTk) : lenS (L ++ [x]) = lenS L + x.s.length := by simp [lenS]
theorem sum_lenS : ∀ L : List RTk, (L.map fun x => x.s.length + 1).sum = lenS L + L.length
  | [] => rfl
  | x :: L => by
    have := sum_lenS L
    simp only [lenS, List.map_cons, List.sum_cons, List.length_cons] at this ⊢
    omega

theorem lenS_le : ∀ L : List RTk, (∀ x ∈ L, x.s.length ≤ 140737488355328) → lenS L ≤ L.length * 140737488355328
  | [], _ => by simp [lenS]
  | x :: L, h => by
    have h1 := lenS_le L fun y hy => h y (List.mem_cons_of_mem _ hy)
    have h2 := h x (List.mem_cons_self ..)
    simp only [lenS, List.map_cons, List.sum_cons, List.length_cons] at h1 ⊢
    omega

namespace Jo
set_option maxRecDepth 100000 in
set_option maxHeartbeats 8000000 in
theorem walk (A : Option Addr) (cA : Nat) (L : List RTk) (S : ByteArray) (a : Int) (w : World) (hL : L.length ≤ maxLen) (hk8 : ∀ x ∈ L, x.k ≤ 255) (hsz : ∀ x ∈ L, x.s.length ≤ 140737488355328) (hrow : isT A L w) (hS : S.size ≤ 140737488355328) :
    Calls Try.prog 4 #[.slice A L.length cA, .string S, .int .i64 a] w fun e w' => e = .returned (.bool true) ∧ Below w.heap.size w w' := by
  obtain ⟨l, rfl⟩ := str_bstr S
  have HW : Hid (∀ W : World, _) := fun W => Aw.walk W
  have hbs := bstr_size l
  rw [hbs] at hS
  unfold maxLen at hL
  have HC : Hid (∀ k, k < L.length → ∃ (b off : Nat) (SX : ByteArray), A = some ⟨b, off, none⟩ ∧ b < w.heap.size ∧ w.cell? ⟨b, off + k * 3 + 1, none⟩ = some (.string SX) ∧ SX.size ≤ 140737488355328 ∧ lenS (L.take (k + 1)) = lenS (L.take k) + SX.size) := fun k hlt => by
    have hgk : L[k]? = some L[k] := List.getElem?_eq_getElem hlt
    obtain ⟨b, off, e, hb, hc⟩ := hrow (by rintro rfl; simp at hlt)
    refine ⟨b, off, _, e, hb, (hc k _ hgk).2.1, by rw [bstr_size]; exact hsz _ (List.getElem_mem hlt), ?_⟩
    rw [take_snoc' hgk, lenS_snoc, bstr_size]
  by_cases hmany : 300 < L.length
  · have hd3 : decide ((300 : Int) < L.length) = true := by simp; omega
    clear hk8 hsz hrow
    generalize L.length = n at *
    go_enter Try.func4, Try.ntmps4
    go_wp2_with fail
    go_loopw [7, 8] (fun v i wr => ∃ (k : Nat) (z : Int), k ≤ n ∧ i = .int .i64 k ∧ v = .int .i64 z ∧ wr = w)
      (fun _ i _ => n - (intOf i).toNat)
    case atStart => exact ⟨0, _, Nat.zero_le _, rfl, rfl, rfl⟩
    case round =>
      obtain ⟨k, z, hk, rfl, rfl, rfl⟩ := hrel
      by_cases hlt : k < n
      · obtain ⟨b, off, SX, rfl, hb, hc, hx, -⟩ := HC.out k hlt
        have hki : (k : Int) < n := by omega
        have hdk : decide (k < n) = true := by simp; omega
        clear HC
        go_wp2_with fail
        go_roundw
        case rel => exact ⟨k + 1, _, by omega, by go_num, rfl, by first | rfl | trivial⟩
        case measure => simp [intOf]; omega
      · have hdk : decide (k < n) = false := by simp; omega
        clear HC
        go_wp2_with fail
        (with_reducible refine (HW.out _).mono ?_); rintro e w3 ⟨rfl, hb3⟩
        go_wp2_with fail
        go_ret
        exact ⟨rfl, hb3⟩
  · have hd3 : decide ((300 : Int) < L.length) = false := by simp; omega
    have HLE : Hid (∀ k, lenS (L.take k) ≤ 300 * 140737488355328) := fun k => by
      have h1 := lenS_le (L.take k) fun x hx => hsz x (List.mem_of_mem_take hx)
      have h2 : (L.take k).length ≤ 300 := by rw [List.length_take]; omega
      exact Nat.le_trans h1 (Nat.mul_le_mul_right _ h2)
    have hjn := jn_sum L L.length (Nat.le_refl _)
    rw [sum_lenS] at hjn
    have hfull : L.take L.length = L := List.take_length
    obtain ⟨n, hn⟩ : ∃ n, L.length = n := ⟨_, rfl⟩
    have HN := Lib.hid hn
    rw [hn] at hd3 hmany hL hfull hjn HC ⊢
    clear hn
    go_enter Try.func4, Try.ntmps4
    go_wp2_with fail
    go_loopw [7, 8] (fun v i wr => ∃ (k q : Nat), k ≤ n ∧ i = .int .i64 k ∧ q = l.length + lenS (L.take k) ∧ v = .int .i64 q ∧ wr = w)
      (fun _ i _ => n - (intOf i).toNat)
    case atStart => exact ⟨0, l.length, Nat.zero_le _, rfl, by simp [lenS], rfl, rfl⟩
    case round =>
      obtain ⟨k, q, hk, rfl, hq, rfl, rfl⟩ := hrel
      by_cases hlt : k < n
      · obtain ⟨b, off, SX, rfl, hb, hc, hx, hnext⟩ := HC.out k hlt
        have hki : (k : Int) < n := by omega
        have hdk : decide (k < n) = true := by simp; omega
        have h300 := HLE.out k
        have hw1 : IntKind.i64.wrap ((q : Int) + SX.size) = (q : Int) + SX.size := IntWalk.i64_in _ (by omega)
        have hw2 : wrap64 ((q : Int) + SX.size) = (q : Int) + SX.size := IntWalk.wrap64_in _ ⟨by omega, by omega⟩
        have HQ : Hid (q + SX.size = l.length + lenS (L.take (k + 1))) := by unfold Hid; omega
        clear HC hrow hk8 hsz hjn hfull hnext hq h300
        go_wp2_with fail
        go_roundw
        case rel => exact ⟨k + 1, q + SX.size, by omega, by go_num, HQ.out, by go_num, by first | rfl | trivial⟩
        case measure => simp [intOf]; omega
      · obtain rfl : k = n := by omega
        rw [hfull] at hq
        have hdk : decide (k < k) = false := by simp
        by_cases h4 : 4000 < q
        · have hd4 : decide ((4000 : Int) < q) = true := by simp; omega
          clear HC hrow hk8 hsz hjn hfull hq
          go_wp2_with fail
          (with_reducible refine (HW.out _).mono ?_); rintro e w3 ⟨rfl, hb3⟩
          go_wp2_with fail
          go_ret
          exact ⟨rfl, hb3⟩
        · have hd4 : decide ((4000 : Int) < q) = false := by simp; omega
          obtain ⟨M, hM⟩ : ∃ M, jn (L.map (·.s)) = M := ⟨_, rfl⟩
          rw [hM] at hjn
          have HT : Hid (∀ (W : World), isT A L W → _) := fun W h => theirs_n A cA k L HN.out (by omega) hk8 W h
          have HJ : Hid (∀ (W : World), isT A L W → _) := fun W h => join_n A cA k L HN.out M (bstr M) hM rfl (by omega) (by omega) W h
          have HJ2 : Hid (∀ (G : Option Addr) (c : Nat) (W : World), isU G L W → _) := fun G c W h => rjoin_n G c k L HN.out M (bstr M) hM rfl (by omega) (by omega) W h
          have HP : Hid (∀ W : World, _) := fun W => places_any l (by omega) a W
          have q4 : ((bstr M).toList == (bstr M).toList) = true := by simp
          generalize bstr M = SM at *
          clear HC hk8 hsz hjn hfull hq hM
          go_wp2_with fail
          (with_reducible refine (HJ.out _ hrow).mono ?_); rintro e w3 ⟨rfl, hb3⟩
          have hB := hb3
          replace hrow := hrow.keep hb3
          clear hb3 HJ
          go_wp2_with fail
          (with_reducible refine (HT.out _ hrow).mono ?_); rintro e w4 ⟨G, c, rfl, hu, hb4⟩
          replace hB := hB.trans (hb4.mono hB.size)
          clear hb4 HT hrow
          go_wp2_with fail
          (with_reducible refine (HJ2.out _ _ _ hu).mono ?_); rintro e w5 ⟨rfl, rfl⟩
          go_wp2_with fail
          (with_reducible refine (HP.out _).mono ?_); rintro e w6 ⟨rfl, rfl⟩
          go_wp2_with fail
          (with_reducible refine (HW.out _).mono ?_); rintro e w7 ⟨rfl, hb7⟩
          replace hB := hB.trans (hb7.mono hB.size)
          go_wp2_with fail
          go_ret
          exact ⟨rfl, hB⟩
end Jo
end Go.Proofs.Ytbpncbomcdpogaa
