/- awake answers true. -/
import Derived.Test.YthjpcafnbniafaaJoin
namespace Go.Proofs.Ythjpcafnbniafaa
open Go.RowKit Go.Joins

/-- A token as it lies in memory. -/
def raw (x : Tk) : RTk := ⟨x.k, x.s, x.o⟩
theorem cellsT_get : ∀ (L : List Tk) (k : Nat) (x : Tk), L[k]? = some x → (cellsT L)[k * 3]? = some (.int .u8 x.k) ∧ (cellsT L)[k * 3 + 1]? = some (.string (bstr x.s)) ∧ (cellsT L)[k * 3 + 2]? = some (.int .i64 x.o)
  | [], k, x, h => by simp at h
  | y :: L, 0, x, h => by
    simp at h; subst h
    exact ⟨rfl, rfl, rfl⟩
  | y :: L, k + 1, x, h => by
    have := cellsT_get L k x (by simpa using h)
    rw [show (k + 1) * 3 = k * 3 + 3 by omega]
    exact this
theorem cellsT_len (L : List Tk) : (cellsT L).length = L.length * 3 := by
  induction L with
  | nil => rfl
  | cons y L ih => show (cellT y ++ cellsT L).length = _; rw [List.length_append, ih]; simp [cellT]; omega
theorem isT_of_own {W : World} {base c n : Nat} {G : Option Addr} {L : List Tk} (h : W.ownsRow base 27 3 (.slice G n c) n (cellsT L)) : isT G (L.map raw) W := fun hne => by
  have hln : L.length * 3 = n * 3 := by rw [← cellsT_len]; exact h.1
  rcases h.2 with ⟨_, e⟩ | ⟨g', cap, cur, e, _, hg, _⟩
  · exfalso
    apply hne
    rw [List.map_eq_nil_iff]
    exact List.eq_nil_of_length_eq_zero (by omega)
  · simp only [Value.slice.injEq] at e
    obtain ⟨rfl, _, _⟩ := e
    refine ⟨g', 0, rfl, (Array.getElem?_eq_some_iff.1 hg).1, fun k x hk => ?_⟩
    rw [List.getElem?_map] at hk
    obtain ⟨y, hy, rfl⟩ := Option.map_eq_some_iff.1 hk
    obtain ⟨h1, h2, h3⟩ := cellsT_get L k y hy
    have q1 := h.cells (g := g') rfl _ _ h1
    have q2 := h.cells (g := g') rfl _ _ h2
    have q3 := h.cells (g := g') rfl _ _ h3
    rw [Addr.add_lit] at q1 q2 q3
    simp only [Nat.zero_add] at q1 q2 q3 ⊢
    exact ⟨q1, q2, q3⟩
/-- What Lex answers, its values named. -/
theorem lex_n (l : List (BitVec 8)) (S : ByteArray) (hS : bstr l = S) (T : List Tk) (n o r : Nat) (hT : lexT l = T) (hn : T.length = n) (hO : lexO l = o) (hE : lexE l = r) (w : World) :
    Calls Try.prog 18 #[.string S] w fun e w' => ∃ G c, e = .returned (.tuple #[.slice G n c, .int .i64 o, .int .i64 r]) ∧ isT G (T.map raw) w' ∧ n ≤ c ∧ Below w.heap.size w w' := by
  subst hS hT hO hE hn
  exact (lex_any l w).mono fun e w' ⟨G, c, h1, h2, h3⟩ => ⟨G, c, h1, isT_of_own h2, own_cap h2, h3⟩
theorem join_n (A : Option Addr) (cap n : Nat) (L : List RTk) (hn : L.length = n) (M : List (BitVec 8)) (S : ByteArray) (hM : jn (L.map (·.s)) = M) (hS : bstr M = S) (hL : n ≤ 1000000000) (hj : M.length ≤ 1000000000) (w : World) (hrow : isT A L w) :
    Calls Try.prog 13 #[.slice A n cap] w fun e w' => e = .returned (.string S) ∧ Below w.heap.size w w' := by
  subst hn hM hS
  exact join_any A cap L hL hj w hrow
theorem place_n (l : List (BitVec 8)) (S : ByteArray) (hS : bstr l = S) (a : Int) (x y : Nat) (hl : l.length ≤ 4611686018427387904) (h : plc (l.take (posN a l.length)) = (x, y)) (w : World) :
    Calls Try.prog 22 #[.string S, .int .i64 a] w fun e w' => e = .returned (.tuple #[.int .i64 x, .int .i64 y]) ∧ w' = w := by
  subst hS
  have := place_any l hl a w
  rwa [h] at this

def src1 : List (BitVec 8) := [118#8, 108#8, 32#8, 118#8, 49#8, 32#8, 98#8, 97#8, 103#8, 32#8, 50#8, 48#8, 48#8, 59#8, 32#8, 35#8, 32#8, 116#8, 119#8, 111#8]
def tks1 : List Tk := [⟨1, [118#8, 108#8], 0⟩, ⟨1, [118#8, 49#8], 3⟩, ⟨1, [98#8, 97#8, 103#8], 6⟩, ⟨2, [50#8, 48#8, 48#8], 10⟩, ⟨3, [59#8], 13⟩]
theorem lexT_1 : lexT src1 = tks1 := by decide +kernel
theorem lexO_1 : lexO src1 = 0 := by decide +kernel
theorem lexE_1 : lexE src1 = 0 := by decide +kernel
theorem jn_1 : jn ((tks1.map raw).map (·.s)) = [118#8, 108#8, 32#8, 118#8, 49#8, 32#8, 98#8, 97#8, 103#8, 32#8, 50#8, 48#8, 48#8, 32#8, 59#8] := by decide +kernel
def src2 : List (BitVec 8) := [97#8, 32#8, 95#8, 98#8]
def src3 : List (BitVec 8) := [55#8, 32#8, 48#8, 48#8, 55#8]
def src4 : List (BitVec 8) := [120#8, 32#8, 50#8, 98#8]
def src5 : List (BitVec 8) := [97#8, 98#8, 10#8, 99#8, 100#8, 10#8, 101#8]
def offs : List Int := [0, 3, 6, 10, 13]
theorem offs_at (k : Nat) (hk : k < 5) : ∃ (x : RTk) (z : Int), (tks1.map raw)[k]? = some x ∧ offs[k]? = some z ∧ x.o = z := by
  rcases (by omega : k = 0 ∨ k = 1 ∨ k = 2 ∨ k = 3 ∨ k = 4) with rfl | rfl | rfl | rfl | rfl <;> exact ⟨_, _, rfl, rfl, rfl⟩

namespace Aw
set_option maxRecDepth 100000 in
set_option maxHeartbeats 8000000 in
theorem walk (w : World) : Calls Try.prog 11 #[] w fun e w' => e = .returned (.bool true) ∧ Below w.heap.size w w' := by
  have H1 : Hid (∀ W : World, _) := fun W => lex_n src1 ⟨#[118, 108, 32, 118, 49, 32, 98, 97, 103, 32, 50, 48, 48, 59, 32, 35, 32, 116, 119, 111]⟩ rfl tks1 5 0 0 lexT_1 rfl lexO_1 lexE_1 W
  have H2 : Hid (∀ W : World, _) := fun W => lex_n src2 ⟨#[97, 32, 95, 98]⟩ rfl [] 0 2 70 (by decide +kernel) rfl (by decide +kernel) (by decide +kernel) W
  have H3 : Hid (∀ W : World, _) := fun W => lex_n src3 ⟨#[55, 32, 48, 48, 55]⟩ rfl [] 0 2 72 (by decide +kernel) rfl (by decide +kernel) (by decide +kernel) W
  have H4 : Hid (∀ W : World, _) := fun W => lex_n src4 ⟨#[120, 32, 50, 98]⟩ rfl [] 0 2 72 (by decide +kernel) rfl (by decide +kernel) (by decide +kernel) W
  have HJ : Hid (∀ (G : Option Addr) (c : Nat) (W : World), isT G (tks1.map raw) W → _) := fun G c W h => join_n G c 5 (tks1.map raw) rfl _ ⟨#[118, 108, 32, 118, 49, 32, 98, 97, 103, 32, 50, 48, 48, 32, 59]⟩ jn_1 rfl (by decide) (by decide) W h
  have HP5 : Hid (∀ W : World, _) := fun W => place_n src5 ⟨#[97, 98, 10, 99, 100, 10, 101]⟩ rfl 5 2 3 (by decide) (by decide +kernel) W
  have HP6 : Hid (∀ W : World, _) := fun W => place_n src5 ⟨#[97, 98, 10, 99, 100, 10, 101]⟩ rfl 6 3 1 (by decide) (by decide +kernel) W
  have hOff : Hid (∀ k, k < 5 → ∃ (x : RTk) (z : Int), (tks1.map raw)[k]? = some x ∧ offs[k]? = some z ∧ x.o = z) := offs_at
  have hne : tks1.map raw ≠ [] := by decide
  generalize tks1.map raw = L at *
  go_enter Try.func11, Try.ntmps11
  go_wp2_with fail
  (with_reducible refine (H1.out _).mono ?_); rintro e w1 ⟨G, c, rfl, hr, hc, hB⟩
  go_wp2_with fail
  have hbo := BoxN.new w1 3 #[.int .i64 0, .int .i64 3, .int .i64 6, .int .i64 10, .int .i64 13]
  replace hr := hr.keep ((Below.refl w1.heap.size w1).alloc (Nat.le_refl _) (.cells #[.int .i64 0, .int .i64 3, .int .i64 6, .int .i64 10, .int .i64 13] 3))
  replace hB := hB.alloc hB.size (.cells #[.int .i64 0, .int .i64 3, .int .i64 6, .int .i64 10, .int .i64 13] 3)
  generalize w1.alloc (.cells #[.int .i64 0, .int .i64 3, .int .i64 6, .int .i64 10, .int .i64 13] 3) = w2 at hbo hr hB ⊢
  generalize w1.heap.size = gO at hbo ⊢
  (with_reducible refine (HJ.out _ _ _ hr).mono ?_); rintro e w3 ⟨rfl, hb3⟩
  replace hbo := hbo.keep hb3
  replace hr := hr.keep hb3
  replace hB := hB.trans (hb3.mono hB.size)
  obtain ⟨b, off, rfl, hbl, hcell⟩ := hr hne
  have hOc : Hid (∀ k z, offs[k]? = some z → (#[.int .i64 0, .int .i64 3, .int .i64 6, .int .i64 10, .int .i64 13] : Array Value)[k]? = some (Value.int .i64 z)) := fun k z h => by
    have : (#[.int .i64 0, .int .i64 3, .int .i64 6, .int .i64 10, .int .i64 13] : Array Value) = (offs.map (Value.int .i64)).toArray := rfl
    rw [this, List.getElem?_toArray, List.getElem?_map, h]; rfl
  clear hb3 hr hne
  go_wp2_with fail
  go_loopw [5] (fun i wr => ∃ k : Nat, k ≤ 5 ∧ i = .int .i64 k ∧ Below w3.heap.size w3 wr)
    (fun i _ => 5 - (intOf i).toNat)
  case atStart => exact ⟨0, by omega, rfl, Below.refl _ _⟩
  case round =>
    obtain ⟨k, hk, rfl, hbr⟩ := hrel
    by_cases hlt : k < 5
    · obtain ⟨x, z, hx, hz, hxz⟩ := hOff.out k hlt
      obtain ⟨_, _, d2⟩ := hcell k x hx
      have hbl2 := Nat.lt_of_lt_of_le hbl hbr.size
      have d2' := (hbr.cell (p := ⟨b, off + k * 3 + 2, none⟩) hbl).trans d2
      rw [hxz] at d2'
      have d3 := ((hbo.keep hbr).cell k).trans (hOc.out k z hz)
      have hbl3 := (hbo.keep hbr).lt
      have hki : (k : Int) < 5 := by omega
      clear d2 hx hz hxz hcell hbo H1 H2 H3 H4 HJ HP5 HP6 hOff hOc
      go_wp2_with fail
      go_quiet (fail)
      have hb4 := below_drewN hbr nq
      go_wp2_with fail
      go_roundw
      case rel => exact ⟨k + 1, by omega, by go_num, hb4⟩
      case measure => simp [intOf]; omega
    · obtain rfl : k = 5 := by omega
      replace hB := hB.trans (hbr.mono hB.size)
      clear hcell hbo hOff hOc H1 HJ hbr
      go_wp2_with fail
      (with_reducible refine (H2.out _).mono ?_); rintro e w4 ⟨G2, c2, rfl, -, -, hb4⟩
      replace hB := hB.trans (hb4.mono hB.size)
      clear hb4 H2
      go_wp2_with fail
      (with_reducible refine (H3.out _).mono ?_); rintro e w5 ⟨G3, c3, rfl, -, -, hb5⟩
      replace hB := hB.trans (hb5.mono hB.size)
      clear hb5 H3
      go_wp2_with fail
      (with_reducible refine (H4.out _).mono ?_); rintro e w6 ⟨G4, c4, rfl, -, -, hb6⟩
      replace hB := hB.trans (hb6.mono hB.size)
      clear hb6 H4
      go_wp2_with fail
      (with_reducible refine (HP5.out _).mono ?_); rintro e w7 ⟨rfl, rfl⟩
      go_wp2_with fail
      (with_reducible refine (HP6.out _).mono ?_); rintro e w8 ⟨rfl, rfl⟩
      go_wp2_with fail
      go_ret
      exact ⟨rfl, hB⟩
end Aw
end Go.Proofs.Ythjpcafnbniafaa
