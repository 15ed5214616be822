/- The contracts of the reference's Place and Join; its tokens in memory. -/
import Derived.Test.YtbpncbomcdpogaaRefB
namespace Go.Proofs.Ytbpncbomcdpogaa
open Go.RowKit Go.Joins

set_option maxRecDepth 100000 in
set_option maxHeartbeats 2000000 in
theorem rplace_any (l : List (BitVec 8)) (hl : l.length ≤ 4611686018427387904) (a : Int) (w : World) :
    Calls Try.prog 25 #[.string (bstr l), .int .i64 a] w fun e w' => e = .returned (.tuple #[.int .i64 (plc (l.take (posN a l.length))).1, .int .i64 (plc (l.take (posN a l.length))).2]) ∧ w' = w := by
  have hbs := bstr_size l
  have hpl := posN_le a l.length
  have hpe : ∀ k : Nat, k < posN a l.length ↔ ((k : Int) < a ∧ k < l.length) := fun k => by unfold posN; omega
  have HX : Hid (∀ (k : Nat) (z : BitVec 8), l[k]? = some z → ∀ w, (Instr.index 9 (.string (bstr l)) (.int .i64 k)).run Try.prog w = .ok (U8 z) w) := fun k z h w => index_bstr l k z h w
  generalize posN a l.length = p at *
  obtain ⟨S, hS⟩ : ∃ S, bstr l = S := ⟨_, rfl⟩
  rw [hS] at hbs HX ⊢
  clear hS
  go_enter Try.func25, Try.ntmps25
  go_wp2_with fail
  go_loopw [6, 7, 8] (fun x y i wr => ∃ k : Nat, k ≤ p ∧ i = .int .i64 k ∧ x = .int .i64 (plc (l.take k)).1 ∧ y = .int .i64 (plc (l.take k)).2 ∧ wr = w)
    (fun _ _ i _ => p - (intOf i).toNat)
  case atStart => exact ⟨0, Nat.zero_le _, rfl, rfl, rfl, rfl⟩
  case round =>
    obtain ⟨k, hk, rfl, rfl, rfl, rfl⟩ := hrel
    obtain ⟨h1, h2, h3, h4⟩ := plc_le (l.take k)
    rw [List.length_take, Nat.min_eq_left (by omega)] at h2 h4
    by_cases hlt : k < p
    · obtain ⟨ka, kl⟩ := (hpe k).1 hlt
      have hgk : l[k]? = some l[k] := List.getElem?_eq_getElem kl
      obtain ⟨z, hz⟩ : ∃ z, l[k] = z := ⟨_, rfl⟩
      rw [hz] at hgk
      have hi := fun W => HX.out k z hgk W
      have hpc := plc_snoc (l.take k) z
      rw [← take_snoc' hgk] at hpc
      have HP := Lib.hid hpc
      have hq := beq_bv z 10#8
      rw [show (((10#8 : BitVec 8)).toNat : Int) = 10 from rfl] at hq
      have kad : decide ((k : Int) < a) = true := by simp; omega
      clear hpc hgk hz hpe HX
      generalize (plc (l.take k)).1 = x at *
      generalize (plc (l.take k)).2 = y at *
      by_cases h10 : z = 10#8
      · rw [decide_eq_true h10] at hq
        have HP2 : Hid (plc (l.take (k + 1)) = (x + 1, 1)) := by unfold Hid; rw [HP.out, if_pos h10]
        clear HP h10
        go_wp2_with fail
        go_roundw
        case rel => exact ⟨k + 1, by omega, by go_num, by rw [HP2.out]; go_num, by rw [HP2.out]; rfl, by first | rfl | trivial⟩
        case measure => simp [intOf]; omega
      · rw [decide_eq_false h10] at hq
        have HP2 : Hid (plc (l.take (k + 1)) = (x, y + 1)) := by unfold Hid; rw [HP.out, if_neg h10]
        clear HP h10
        go_wp2_with fail
        go_roundw
        case rel => exact ⟨k + 1, by omega, by go_num, by rw [HP2.out], by rw [HP2.out]; go_num, by first | rfl | trivial⟩
        case measure => simp [intOf]; omega
    · obtain rfl : k = p := by omega
      obtain ⟨x, hx⟩ : ∃ x, (plc (l.take k)).1 = x := ⟨_, rfl⟩
      obtain ⟨y, hy⟩ : ∃ y, (plc (l.take k)).2 = y := ⟨_, rfl⟩
      rw [hx, hy]
      have H1 := Lib.hid hx
      have H2 := Lib.hid hy
      have hno := mt (hpe k).2 hlt
      clear hx hy hpe HX
      by_cases hka : (k : Int) < a
      · have kad : decide ((k : Int) < a) = true := by simp; omega
        have hkl : ¬ k < l.length := fun h => hno ⟨hka, h⟩
        have hkd : decide (k < l.length) = false := by simp; omega
        clear hno
        go_wp2_with fail
        go_ret2
        exact ⟨by rw [H1.out, H2.out]; rfl, rfl⟩
      · have kad : decide ((k : Int) < a) = false := by simp; omega
        clear hno
        go_wp2_with fail
        go_ret2
        exact ⟨by rw [H1.out, H2.out]; rfl, rfl⟩

/-- The reference's tokens that a slice reads. -/
def isU (A : Option Addr) (L : List RTk) (W : World) : Prop := L ≠ [] → ∃ b off, A = some ⟨b, off, none⟩ ∧ b < W.heap.size ∧ ∀ k x, L[k]? = some x → W.cell? ⟨b, off + k * 3, none⟩ = some (.int .i64 x.k) ∧ W.cell? ⟨b, off + k * 3 + 1, none⟩ = some (.string (bstr x.s)) ∧ W.cell? ⟨b, off + k * 3 + 2, none⟩ = some (.int .i64 x.o)
theorem isU.keep {A : Option Addr} {L : List RTk} {w w' : World} (h : isU A L w) (hb : Below w.heap.size w w') : isU A L w' := fun hz => by
  obtain ⟨b, off, e, hl, hr⟩ := h hz
  exact ⟨b, off, e, Nat.lt_of_lt_of_le hl hb.size, fun k x hk => by
    obtain ⟨h1, h2, h3⟩ := hr k x hk
    exact ⟨(hb.cell (p := ⟨b, off + k * 3, none⟩) hl).trans h1, (hb.cell (p := ⟨b, off + k * 3 + 1, none⟩) hl).trans h2, (hb.cell (p := ⟨b, off + k * 3 + 2, none⟩) hl).trans h3⟩⟩
theorem isU.drewN {A : Option Addr} {L : List RTk} {w : World} (h : isU A L w) (n : Nat) : isU A L (w.drewN n) := h.keep (below_drewN (Below.refl _ _) n)
def cellU (x : RTk) : List Value := [.int .i64 x.k, .string (bstr x.s), .int .i64 x.o]
def cellsU (l : List RTk) : List Value := l.flatMap cellU
theorem cellsU_snoc (l : List RTk) (x : RTk) : cellsU (l ++ [x]) = cellsU l ++ [.int .i64 x.k, .string (bstr x.s), .int .i64 x.o] := by simp [cellsU, cellU]
theorem cellsU_get : ∀ (L : List RTk) (k : Nat) (x : RTk), L[k]? = some x → (cellsU L)[k * 3]? = some (.int .i64 x.k) ∧ (cellsU L)[k * 3 + 1]? = some (.string (bstr x.s)) ∧ (cellsU L)[k * 3 + 2]? = some (.int .i64 x.o)
  | [], k, x, h => by simp at h
  | y :: L, 0, x, h => by
    simp at h; subst h
    exact ⟨rfl, rfl, rfl⟩
  | y :: L, k + 1, x, h => by
    have := cellsU_get L k x (by simpa using h)
    rw [show (k + 1) * 3 = k * 3 + 3 by omega]
    exact this
theorem cellsU_len (L : List RTk) : (cellsU L).length = L.length * 3 := by
  induction L with
  | nil => rfl
  | cons y L ih => show (cellU y ++ cellsU L).length = _; rw [List.length_append, ih]; simp [cellU]; omega
theorem isU_of_own {W : World} {base c n : Nat} {G : Option Addr} {L : List RTk} (h : W.ownsRow base 50 3 (.slice G n c) n (cellsU L)) : isU G L W := fun hne => by
  have hln : L.length * 3 = n * 3 := by rw [← cellsU_len]; exact h.1
  rcases h.2 with ⟨_, e⟩ | ⟨g', cap, cur, e, _, hg, _⟩
  · exact absurd (List.eq_nil_of_length_eq_zero (by omega)) hne
  · simp only [Value.slice.injEq] at e
    obtain ⟨rfl, _, _⟩ := e
    refine ⟨g', 0, rfl, (Array.getElem?_eq_some_iff.1 hg).1, fun k x hk => ?_⟩
    obtain ⟨h1, h2, h3⟩ := cellsU_get L k x hk
    have q1 := h.cells (g := g') rfl _ _ h1
    have q2 := h.cells (g := g') rfl _ _ h2
    have q3 := h.cells (g := g') rfl _ _ h3
    rw [Addr.add_lit] at q1 q2 q3
    simp only [Nat.zero_add] at q1 q2 q3 ⊢
    exact ⟨q1, q2, q3⟩

set_option maxRecDepth 100000 in
set_option maxHeartbeats 4000000 in
theorem rjoin_any (A : Option Addr) (cap : Nat) (L : List RTk) (hL : L.length ≤ 1000000000) (hj : (jn (L.map (·.s))).length ≤ 1000000000) (w : World) (hrow : isU A L w) :
    Calls Try.prog 14 #[.slice A L.length cap] w fun e w' => e = .returned (.string (bstr (jn (L.map (·.s))))) ∧ w' = w := by
  go_enter Try.func14, Try.ntmps14
  go_wp2_with fail
  go_loopw [3, 4] (fun x i wr => ∃ k : Nat, k ≤ L.length ∧ i = .int .i64 k ∧ x = .string (bstr (jn ((L.take k).map (·.s)))) ∧ wr = w)
    (fun _ i _ => L.length - (intOf i).toNat)
  case atStart => exact ⟨0, Nat.zero_le _, rfl, rfl, rfl⟩
  case round =>
    obtain ⟨k, hk, rfl, rfl, rfl⟩ := hrel
    by_cases hlt : k < L.length
    · have hgk : L[k]? = some L[k] := List.getElem?_eq_getElem hlt
      obtain ⟨x, hx⟩ : ∃ x, L[k] = x := ⟨_, rfl⟩
      rw [hx] at hgk
      have hsn := take_snoc' hgk
      obtain ⟨b, off, rfl, hbl, hcell⟩ := hrow (by rintro rfl; simp at hlt)
      obtain ⟨_, d2, _⟩ := hcell k x hgk
      have hki : (k : Int) < L.length := by omega
      have hlen : (jn ((L.take (k + 1)).map (·.s))).length ≤ 1000000000 := by
        have := jn_pre (List.IsPrefix.map (·.s) (List.take_prefix (k + 1) L))
        omega
      have hxs := bstr_size x.s
      by_cases hk0 : k = 0
      · subst hk0
        have H : Hid (bstr (jn ((L.take (0 + 1)).map (·.s))) = bstr x.s) := by
          unfold Hid
          rw [hsn, List.take_zero, List.nil_append]
          show bstr (jn [x.s]) = _
          rw [jn_one]
        have hlx : x.s.length ≤ 1000000000 := by
          have h2 := congrArg ByteArray.size H.out
          rw [bstr_size, bstr_size] at h2
          omega
        have hj0 : jn ((L.take 0).map (·.s)) = [] := rfl
        have he : (⟨#[]⟩ : ByteArray) ++ bstr x.s = bstr x.s := by rw [show (⟨#[]⟩ : ByteArray) = bstr [] from rfl, bstr_append]; rfl
        have he2 : ByteArray.empty ++ bstr x.s = bstr x.s := he
        rw [hj0, show bstr [] = ⟨#[]⟩ from rfl]
        rw [Nat.zero_mul, Nat.add_zero] at d2
        rw [show ((0 : Nat) : Int) = 0 from rfl]
        clear hsn hgk hx hcell hrow hj0
        go_wp2_with fail
        go_roundw
        case rel => exact ⟨1, by omega, by go_num, by rw [H.out], by first | rfl | trivial⟩
        case measure => simp [intOf]; omega
      · have H : Hid (bstr (jn ((L.take (k + 1)).map (·.s))) = bstr (jn ((L.take k).map (·.s))) ++ ⟨#[32]⟩ ++ bstr x.s) := by
          unfold Hid
          rw [hsn, List.map_append, List.map_singleton, jn_snoc _ _ (by simp; exact ⟨hk0, by rintro rfl; simp at hlt⟩), show (⟨#[32]⟩ : ByteArray) = bstr [32#8] from rfl, bstr_append, bstr_append]
        have hkd : decide ((0 : Int) < (k : Int)) = true := by simp; omega
        have hkd2 : decide (0 < k) = true := by simp; omega
        have hJs := bstr_size (jn ((L.take k).map (·.s)))
        have h1s : ((⟨#[32]⟩ : ByteArray)).size = 1 := rfl
        have hlx : (jn ((L.take k).map (·.s))).length + 1 + x.s.length ≤ 1000000000 := by
          rw [hsn, List.map_append, List.map_singleton, jn_snoc _ _ (by simp; exact ⟨hk0, by rintro rfl; simp at hlt⟩)] at hlen
          simp only [List.length_append, List.length_singleton] at hlen
          exact hlen
        have hs2 : (bstr (jn ((L.take k).map (·.s))) ++ ⟨#[32]⟩).size = (jn ((L.take k).map (·.s))).length + 1 := by rw [ByteArray.size_append, hJs, h1s]
        generalize (jn ((L.take k).map (·.s))).length = jl at *
        generalize bstr (jn ((L.take k).map (·.s))) = J at *
        clear hsn hgk hx hcell hrow
        go_wp2_with fail
        go_roundw
        case rel => exact ⟨k + 1, by omega, by go_num, by rw [H.out], by first | rfl | trivial⟩
        case measure => simp [intOf]; omega
    · obtain rfl : k = L.length := by omega
      rw [List.take_length]
      obtain ⟨J, hJ⟩ : ∃ J, bstr (jn (L.map (·.s))) = J := ⟨_, rfl⟩
      rw [hJ]
      have HJ := Lib.hid hJ
      clear hJ hrow
      go_wp2_with fail
      go_ret
      exact ⟨by rw [HJ.out]; rfl, rfl⟩
end Go.Proofs.Ytbpncbomcdpogaa
