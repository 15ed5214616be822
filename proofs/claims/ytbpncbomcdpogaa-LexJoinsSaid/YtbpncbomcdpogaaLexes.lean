/- The contracts of lexes and places: the program agrees with the reference. -/
import Derived.Test.YtbpncbomcdpogaaTheirs
import Derived.Test.YtbpncbomcdpogaaBackM
namespace Go.Proofs.Ytbpncbomcdpogaa
open Go.RowKit Go.Joins

theorem raw_s' (L : List Tk) : (L.map raw).map (·.s) = L.map (·.s) := by rw [List.map_map]; rfl
theorem lexT_small (l : List (BitVec 8)) : (lexT l).length ≤ 65536 ∧ (jn ((lexT l).map (·.s))).length ≤ 131072 ∧ ∀ x ∈ lexT l, x.k ≤ 255 := by
  unfold lexT
  split
  · refine ⟨by simp, by simp [jn], fun x h => (by cases h)⟩
  · rename_i h
    have hl : l.length ≤ 65536 := by
      rcases Nat.lt_or_ge 65536 l.length with h1 | h1
      · exact absurd (.inl h1) h
      · exact h1
    refine ⟨Nat.le_trans (scan_len 0 l) hl, ?_, fun x hx => ?_⟩
    · rw [jn_flat, List.length_drop]
      have := flat_len l.length 0 l (Nat.le_refl _)
      omega
    · obtain ⟨c, t, _, e, _⟩ := scan_mem hx
      rw [e]; have := kd_le c; omega
theorem rlex_n (l : List (BitVec 8)) (S : ByteArray) (hS : bstr l = S) (T : List Tk) (n o r : Nat) (hT : lexT l = T) (hn : T.length = n) (hO : lexO l = o) (hE : lexE l = r) (w : World) :
    Calls Try.prog 23 #[.string S] w fun e w' => ∃ G c, e = .returned (.tuple #[.slice G n c, .int .i64 o, .int .i64 r]) ∧ isU G (T.map raw) w' ∧ Below w.heap.size w w' := by
  subst hS hT hO hE hn
  exact (rlex_any l w).mono fun e w' ⟨G, c, h1, h2, h3⟩ => ⟨G, c, h1, isU_of_own h2, h3⟩
theorem theirs_n (A : Option Addr) (cA n : Nat) (L : List RTk) (hn : L.length = n) (hL : n ≤ 1000000) (hk8 : ∀ x ∈ L, x.k ≤ 255) (w : World) (hrow : isT A L w) :
    Calls Try.prog 15 #[.slice A n cA] w fun e w' => ∃ G c, e = .returned (.slice G n c) ∧ isU G L w' ∧ Below w.heap.size w w' := by
  subst hn
  exact (theirs_any A cA L hL hk8 w hrow).mono fun e w' ⟨G, c, h1, h2, h3⟩ => ⟨G, c, h1, isU_of_own h2, h3⟩
theorem rjoin_n (A : Option Addr) (cap n : Nat) (L : List RTk) (hn : L.length = n) (M : List (BitVec 8)) (S : ByteArray) (hM : jn (L.map (·.s)) = M) (hS : bstr M = S) (hL : n ≤ 1000000000) (hj : M.length ≤ 1000000000) (w : World) (hrow : isU A L w) :
    Calls Try.prog 14 #[.slice A n cap] w fun e w' => e = .returned (.string S) ∧ w' = w := by
  subst hn hM hS
  exact rjoin_any A cap L hL hj w hrow

set_option maxRecDepth 100000 in
set_option maxHeartbeats 8000000 in
theorem lexes_any (l : List (BitVec 8)) (w : World) :
    Calls Try.prog 12 #[.string (bstr l)] w fun e w' => e = .returned (.bool true) ∧ Below w.heap.size w w' := by
  obtain ⟨s1, s2, s3⟩ := lexT_small l
  obtain ⟨M, hM⟩ : ∃ M, jn ((lexT l).map (·.s)) = M := ⟨_, rfl⟩
  rw [hM] at s2
  have HL : Hid (∀ W : World, _) := fun W => lex_n l (bstr l) rfl (lexT l) (lexT l).length (lexO l) (lexE l) rfl rfl rfl rfl W
  have HR : Hid (∀ W : World, _) := fun W => rlex_n l (bstr l) rfl (lexT l) (lexT l).length (lexO l) (lexE l) rfl rfl rfl rfl W
  have hk8 : ∀ x ∈ (lexT l).map raw, x.k ≤ 255 := fun x hx => by
    obtain ⟨y, hy, rfl⟩ := List.mem_map.1 hx
    exact s3 y hy
  have hln : ((lexT l).map raw).length = (lexT l).length := by simp
  have hMs : jn (((lexT l).map raw).map (·.s)) = M := by rw [raw_s', hM]
  have HT : Hid (∀ (G : Option Addr) (c : Nat) (W : World), isT G ((lexT l).map raw) W → _) := fun G c W h => theirs_n G c (lexT l).length _ hln (by omega) hk8 W h
  have HJ : Hid (∀ (G : Option Addr) (c : Nat) (W : World), isT G ((lexT l).map raw) W → _) := fun G c W h => join_n G c (lexT l).length _ hln M (bstr M) hMs rfl (by omega) (by omega) W h
  have HJ2 : Hid (∀ (G : Option Addr) (c : Nat) (W : World), isU G ((lexT l).map raw) W → _) := fun G c W h => rjoin_n G c (lexT l).length _ hln M (bstr M) hMs rfl (by omega) (by omega) W h
  generalize (lexT l).map raw = R at *
  generalize (lexT l).length = n at *
  generalize lexO l = o at *
  generalize lexE l = r at *
  generalize bstr M = SM at *
  have q1 : ((n : Int) != n) = false := by simp
  have q2 : ((o : Int) != o) = false := by simp
  have q3 : ((r : Int) != r) = false := by simp
  have q4 : (SM.toList != SM.toList) = false := by simp
  clear hM hMs s2 s3
  go_enter Try.func12, Try.ntmps12
  go_wp2_with fail
  (with_reducible refine (HL.out _).mono ?_); rintro e w1 ⟨G1, c1, rfl, hr1, _, hB⟩
  clear HL
  go_wp2_with fail
  (with_reducible refine (HR.out _).mono ?_); rintro e w2 ⟨G2, c2, rfl, hr2, hb2⟩
  replace hB := hB.trans (hb2.mono hB.size)
  replace hr1 := hr1.keep hb2
  clear HR hb2
  go_wp2_with fail
  (with_reducible refine (HT.out _ _ _ hr1).mono ?_); rintro e w3 ⟨G3, c3, rfl, hr3, hb3⟩
  replace hB := hB.trans (hb3.mono hB.size)
  replace hr1 := hr1.keep hb3
  replace hr2 := hr2.keep hb3
  clear HT hb3
  go_wp2_with fail
  (with_reducible refine (HJ.out _ _ _ hr1).mono ?_); rintro e w4 ⟨rfl, hb4⟩
  replace hB := hB.trans (hb4.mono hB.size)
  replace hr2 := hr2.keep hb4
  replace hr3 := hr3.keep hb4
  clear HJ hb4 hr1
  go_wp2_with fail
  (with_reducible refine (HJ2.out _ _ _ hr2).mono ?_); rintro e w5 ⟨rfl, rfl⟩
  clear HJ2
  go_wp2_with fail
  clear q1 q2 q3 q4
  go_loopw [10] (fun i wr => ∃ k : Nat, k ≤ n ∧ i = .int .i64 k ∧ isU G2 R wr ∧ isU G3 R wr ∧ Below w.heap.size w wr)
    (fun i _ => n - (intOf i).toNat)
  case atStart => exact ⟨0, Nat.zero_le _, rfl, hr2, hr3, hB⟩
  case round =>
    clear hr2 hr3 hB
    obtain ⟨k, hk, rfl, hr2, hr3, hB⟩ := hrel
    by_cases hlt : k < n
    · have hgk : R[k]? = some (R[k]'(by omega)) := List.getElem?_eq_getElem (by omega)
      obtain ⟨x, hx⟩ : ∃ x, R[k]'(by omega) = x := ⟨_, rfl⟩
      rw [hx] at hgk
      have HDr : Hid (∀ q, isU G2 R (wr.drewN q) ∧ isU G3 R (wr.drewN q) ∧ Below w.heap.size w (wr.drewN q)) := fun q => ⟨hr2.drewN q, hr3.drewN q, below_drewN hB q⟩
      obtain ⟨b2, o2, rfl, hl2, hc2⟩ := hr2 (by rintro rfl; simp at hgk)
      obtain ⟨b3, o3, rfl, hl3, hc3⟩ := hr3 (by rintro rfl; simp at hgk)
      obtain ⟨d1, d2, d3⟩ := hc2 k x hgk
      obtain ⟨e1, e2, e3⟩ := hc3 k x hgk
      have hki : (k : Int) < n := by omega
      clear hc2 hc3 hgk hx hk8 hln
      go_wp2_with fail
      go_quiet (fail)
      go_wp2_with fail
      go_roundw
      case rel => exact ⟨k + 1, by omega, by go_num, (HDr.out _).1, (HDr.out _).2.1, (HDr.out _).2.2⟩
      case measure => simp [intOf]; omega
    · clear hr2 hr3
      go_wp2_with fail
      go_ret
      exact ⟨rfl, hB⟩

set_option maxRecDepth 100000 in
set_option maxHeartbeats 2000000 in
theorem places_any (l : List (BitVec 8)) (hl : l.length ≤ 4611686018427387904) (a : Int) (w : World) :
    Calls Try.prog 16 #[.string (bstr l), .int .i64 a] w fun e w' => e = .returned (.bool true) ∧ w' = w := by
  have HP : Hid (∀ W : World, _) := fun W => place_any l hl a W
  have HR : Hid (∀ W : World, _) := fun W => rplace_any l hl a W
  generalize (plc (l.take (posN a l.length))).1 = x at *
  generalize (plc (l.take (posN a l.length))).2 = y at *
  have q1 : ((x : Int) == x) = true := by simp
  have q2 : ((y : Int) == y) = true := by simp
  go_enter Try.func16, Try.ntmps16
  go_wp2_with fail
  (with_reducible refine (HP.out _).mono ?_); rintro e w1 ⟨rfl, rfl⟩
  go_wp2_with fail
  (with_reducible refine (HR.out _).mono ?_); rintro e w2 ⟨rfl, rfl⟩
  go_wp2_with fail
  go_ret
  exact ⟨rfl, rfl⟩
end Go.Proofs.Ytbpncbomcdpogaa
