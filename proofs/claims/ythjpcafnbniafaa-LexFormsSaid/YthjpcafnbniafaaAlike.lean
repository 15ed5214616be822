/- The contract of alike, where the tokens are; parts of a slice of tokens. -/
import Derived.Test.YthjpcafnbniafaaAwake
namespace Go.Proofs.Ythjpcafnbniafaa
open Go.RowKit Go.Joins

def ks (x : RTk) : Nat × List (BitVec 8) := (x.k, x.s)
theorem ks_at {L M : List RTk} (h : L.map ks = M.map ks) {k : Nat} {x : RTk} (hx : L[k]? = some x) : ∃ y, M[k]? = some y ∧ y.k = x.k ∧ y.s = x.s := by
  have h1 : (L.map ks)[k]? = some (ks x) := by rw [List.getElem?_map, hx]; rfl
  rw [h, List.getElem?_map] at h1
  obtain ⟨y, hy, he⟩ := Option.map_eq_some_iff.1 h1
  simp only [ks, Prod.mk.injEq] at he
  exact ⟨y, hy, he.1, he.2⟩
theorem isT.drewN {A : Option Addr} {L : List RTk} {w : World} (h : isT A L w) (n : Nat) : isT A L (w.drewN n) := h.keep (below_drewN (Below.refl _ _) n)
theorem isT.take {A : Option Addr} {L : List RTk} {w : World} (h : isT A L w) (n : Nat) : isT A (L.take n) w := fun hne => by
  obtain ⟨b, off, e, hl, hr⟩ := h (by rintro rfl; simp at hne)
  exact ⟨b, off, e, hl, fun k x hk => hr k x (by
    rw [List.getElem?_take] at hk
    split at hk
    · exact hk
    · cases hk)⟩
theorem isT.drop {b off : Nat} {L : List RTk} {w : World} (h : isT (some ⟨b, off, none⟩) L w) (n : Nat) : isT (some ⟨b, off + n * 3, none⟩) (L.drop n) w := fun hne => by
  obtain ⟨b', off', e, hl, hr⟩ := h (by rintro rfl; simp at hne)
  cases e
  refine ⟨b, off + n * 3, rfl, hl, fun k x hk => ?_⟩
  rw [List.getElem?_drop] at hk
  have := hr _ x hk
  rw [Nat.add_mul, ← Nat.add_assoc] at this
  exact this
theorem isT.nil (A : Option Addr) (w : World) : isT A [] w := fun h => absurd rfl h

set_option maxRecDepth 100000 in
set_option maxHeartbeats 4000000 in
theorem alike_yes (A B : Option Addr) (cA cB n : Nat) (L M : List RTk) (hL : L.length = n) (hn : n ≤ 1000000000) (hks : L.map ks = M.map ks) (w : World) (ha : isT A L w) (hb : isT B M w) :
    Calls Try.prog 19 #[.slice A n cA, .slice B n cB] w fun e w' => e = .returned (.bool true) ∧ ∃ m, w' = w.drewN m := by
  go_enter Try.func19, Try.ntmps19
  have hnn : ((n : Int) != n) = false := by simp
  go_wp2_with fail
  clear hnn
  go_loopw [5] (fun i wr => ∃ k : Nat, k ≤ n ∧ i = .int .i64 k ∧ ∃ m, wr = w.drewN m)
    (fun i _ => n - (intOf i).toNat)
  case atStart => exact ⟨0, Nat.zero_le _, rfl, 0, rfl⟩
  case round =>
    obtain ⟨k, hk, rfl, m0, hm0⟩ := hrel
    by_cases hlt : k < n
    · have hgk : L[k]? = some (L[k]'(by omega)) := List.getElem?_eq_getElem (by omega)
      obtain ⟨x, hx⟩ : ∃ x, L[k]'(by omega) = x := ⟨_, rfl⟩
      rw [hx] at hgk
      obtain ⟨y, hgy, e1, e2⟩ := ks_at hks hgk
      have ha1 := ha.drewN m0
      have hb1 := hb.drewN m0
      rw [← hm0] at ha1 hb1
      obtain ⟨b1, o1, rfl, hl1, hr1⟩ := ha1 (by rintro rfl; simp at hgk)
      obtain ⟨b2, o2, rfl, hl2, hr2⟩ := hb1 (by rintro rfl; simp at hgy)
      obtain ⟨p1, p2, _⟩ := hr1 k x hgk
      obtain ⟨q1, q2, _⟩ := hr2 k y hgy
      rw [e1] at q1
      rw [e2] at q2
      have hki : (k : Int) < n := by omega
      have hwr : IntKind.i64.wrap ((k : Int) + 1) = (k : Int) + 1 := IntWalk.i64_in _ (by omega)
      have hq1 : ((x.k : Int) != x.k) = false := by simp
      have hq2 : ((bstr x.s).toList != (bstr x.s).toList) = false := by simp
      have HDr : Hid (∀ q, ∃ m, wr.drewN q = w.drewN m) := fun q => ⟨m0 + q, by rw [hm0]; simp⟩
      clear hr1 hr2 hgk hgy e1 e2 hx hks hL hm0 ha hb
      go_wp2_with fail
      go_quiet (fail)
      go_wp2_with fail
      go_roundw
      case rel => exact ⟨k + 1, by omega, by go_num, HDr.out _⟩
      case measure => simp [intOf]; omega
    · have HDr : Hid (∃ m, wr = w.drewN m) := ⟨m0, hm0⟩
      go_wp2_with fail
      go_ret
      exact ⟨rfl, by first | exact HDr.out | exact ⟨_, rfl⟩⟩
end Go.Proofs.Ythjpcafnbniafaa
