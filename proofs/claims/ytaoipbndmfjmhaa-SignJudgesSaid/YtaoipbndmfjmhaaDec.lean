/- The contract of Decode. -/
import Derived.Test.YtaoipbndmfjmhaaNum
namespace Go.Proofs.Ytaoipbndmfjmhaa
open Go.RowKit Go.Joins

theorem lo8_byte {v : Int} (h0 : 0 ≤ v) (h1 : v ≤ 255) : ((lo8 v).toNat : Int) = v := by
  unfold lo8
  rw [BitVec.toNat_ofInt]
  omega

set_option maxRecDepth 100000 in
set_option maxHeartbeats 2000000 in
theorem decode_len (A : Option Addr) (cap : Nat) (l : List (BitVec 8)) (q h : Nat) (hq : q ≤ 255) (hh : h ≤ 6) (h0 : l[0]? = some (lo8 q)) (h1 : l[1]? = some (lo8 h)) (hk : okK q h = true) (hne : l.length ≠ 146 + 8 * h) (hlen : l.length ≤ 100000) (h2 : 2 < l.length) (hcap : l.length ≤ cap) (w : World) (hl : isB A l w) :
    Calls Try.prog 25 #[.slice A l.length cap] w fun e w' => e = .returned (.tuple #[.agg #[.int .i64 0, .int .u64 0, .int .u64 0, .int .u64 0, .int .u64 0, .int .u64 0, .int .u64 0, .int .u64 0, .int .u64 0, .int .u64 0, .int .u64 0, .int .u64 0, .int .u64 0, .int .u64 0, .int .u64 0, .int .u64 0, .int .u64 0, .int .u64 0, .int .u64 0, .slice none 0 0], .int .i64 60]) ∧ Below w.heap.size w w' := by
  have HK : Hid (∀ W : World, Calls Try.prog 44 #[.int .i64 q, .int .i64 h] W fun e w' => e = .returned (.bool true) ∧ Below W.heap.size W w') := fun W => by
    have := isKey_any q h W
    rwa [hk] at this
  have hzs := zero_sig
  have hi2 : (Try.prog.info? 34).map (·.size) = some (#[.int .i64 0, .int .u64 0, .int .u64 0, .int .u64 0, .int .u64 0, .int .u64 0, .int .u64 0, .int .u64 0, .int .u64 0, .int .u64 0, .int .u64 0, .int .u64 0, .int .u64 0, .int .u64 0, .int .u64 0, .int .u64 0, .int .u64 0, .int .u64 0, .int .u64 0, .slice none 0 0] : Array Value).size := info_sig
  have ho2 : (#[.int .i64 0, .int .u64 0, .int .u64 0, .int .u64 0, .int .u64 0, .int .u64 0, .int .u64 0, .int .u64 0, .int .u64 0, .int .u64 0, .int .u64 0, .int .u64 0, .int .u64 0, .int .u64 0, .int .u64 0, .int .u64 0, .int .u64 0, .int .u64 0, .int .u64 0, .slice none 0 0] : Array Value).all (·.oneCell') = true := by decide +kernel
  obtain ⟨Z, hZ⟩ : ∃ Z, (#[.int .i64 0, .int .u64 0, .int .u64 0, .int .u64 0, .int .u64 0, .int .u64 0, .int .u64 0, .int .u64 0, .int .u64 0, .int .u64 0, .int .u64 0, .int .u64 0, .int .u64 0, .int .u64 0, .int .u64 0, .int .u64 0, .int .u64 0, .int .u64 0, .int .u64 0, .slice none 0 0] : Array Value) = Z := ⟨_, rfl⟩
  rw [hZ] at hzs hi2 ho2 ⊢
  clear hZ
  have hl1 : 1 < l.length := (List.getElem?_eq_some_iff.1 h1).1
  have hB : Below w.heap.size w (w.alloc (.cells Z 34)) := (Below.refl _ w).alloc (Nat.le_refl _) _
  obtain ⟨b, off, rfl, hbl, hr⟩ := hl.keep hB (by intro e; rw [e] at hl1; simp at hl1)
  have c0 := hr 0 _ h0
  have c1 := hr 1 _ h1
  have b0 : ((lo8 (q : Int)).toNat : Int) = q := lo8_byte (by omega) (by omega)
  have b1 : ((lo8 (h : Int)).toNat : Int) = h := lo8_byte (by omega) (by omega)
  unfold U8 at c0 c1
  rw [Nat.add_zero] at c0
  rw [b0] at c0
  rw [b1] at c1
  clear hr h0 h1 b0 b1 hk hl
  generalize l.length = n at *
  have hd2 : decide ((n : Int) < 2) = false := by simp; omega
  have hx0 : 0 < n := by omega
  have hc2 : 2 < cap := by omega
  go_enter Try.func25, Try.ntmps25
  have b8 : BoxN (w.alloc (.cells Z 34)) w.heap.size 34 Z := BoxN.new w _ _
  go_wp2_with fail
  go_quiet (fail)
  rename_i nq
  replace b8 := b8.drewN nq
  replace hB := below_drewN hB nq
  go_wp2_with fail
  (with_reducible refine (HK.out _).mono ?_); rintro e w1 ⟨rfl, hb1⟩
  replace b8 := b8.keep hb1
  replace hB := hB.trans (hb1.mono hB.size)
  clear hb1 c0 c1 hbl
  have b8' : w1.heap[w.heap.size]? = some (.cells Z 34 (0, 0)) := b8
  have b2 : BoxN (w1.setRow w.heap.size Z) w.heap.size 34 Z := b8.setRow _
  have hB2 := below_setRow hB (Nat.le_refl w.heap.size) Z
  have hcmp : (((n - 2 : Nat) : Int) != (18 + (h : Int)) * 8) = true := by
    rw [bne_iff_ne]; omega
  clear hne
  go_wp2_with (refine wpList_store_rowTo rfl 34 _ _ rfl rfl w.heap.size Z rfl rfl _ Z b8' hi2 rfl ho2 ?_)
  exact bodyPost_ret (v := .tuple #[.agg Z, .int .i64 60]) (results_cell_tmp Try.results25 _ _ w.heap.size _ Z _ rfl b2 Try.underlying34 rfl hi2) rfl ⟨rfl, hB2⟩

theorem bytesL_get : ∀ (xs : List (BitVec 64)) (i j : Nat) (x : BitVec 64), xs[i]? = some x → j < 8 → (bytesL xs)[i * 8 + j]? = some (byteF x j)
  | [], i, j, x, h, _ => by simp at h
  | y :: ys, 0, j, x, h, hj => by
    have e : y = x := by simpa using h
    subst e
    rw [show bytesL (y :: ys) = bytes8 y ++ bytesL ys from rfl, Nat.zero_mul, Nat.zero_add, List.getElem?_append_left (by rw [bytes8_len]; exact hj)]
    simp [bytes8, hj]
  | y :: ys, i + 1, j, x, h, hj => by
    rw [show bytesL (y :: ys) = bytes8 y ++ bytesL ys from rfl, List.getElem?_append_right (by rw [bytes8_len]; omega), bytes8_len]
    rw [show (i + 1) * 8 + j - 8 = i * 8 + j by omega]
    exact bytesL_get ys i j x (by simpa using h) hj
theorem encB_get0 (q : Int) (f : Nat → BitVec 64) (l : List (BitVec 64)) : (encB q f l)[0]? = some (lo8 q) := by simp [encB]
theorem encB_get1 (q : Int) (f : Nat → BitVec 64) (l : List (BitVec 64)) : (encB q f l)[1]? = some (lo8 (l.length : Int)) := by simp [encB]
theorem encB_drop (q : Int) (f : Nat → BitVec 64) (l : List (BitVec 64)) : (encB q f l).drop 2 = bytesL (wds 18 f ++ l) := by simp [encB, bytesL_append]
theorem numB_bytes (xs : List (BitVec 64)) (i : Nat) (x : BitVec 64) (h : xs[i]? = some x) : numB (bytesL xs) i = x :=
  numB_of _ _ _ fun j hj => by rw [List.getD_eq_getElem?_getD, bytesL_get xs i j x h hj]; rfl

/-- The first k chain values are set. -/
def fK (f : Nat → BitVec 64) (k j : Nat) : BitVec 64 := if j < k then f j else 0#64
theorem sgA_congr {q : Int} {f g : Nat → BitVec 64} (p : Value) (h : ∀ i, i < 18 → f i = g i) : sgA q f p = sgA q g p := by
  apply Array.ext_getElem?
  intro i
  by_cases hi : i < 20
  · rw [sgA_get _ _ _ _ hi, sgA_get _ _ _ _ hi]
    unfold sgF
    split
    · rfl
    · split
      · rfl
      · rw [h (i - 1) (by omega)]
  · rw [Array.getElem?_eq_none (by rw [sgA_size]; omega), Array.getElem?_eq_none (by rw [sgA_size]; omega)]
theorem sgA_step (q : Int) (f : Nat → BitVec 64) (p : Value) (k : Nat) (hk : k < 18) : (sgA q (fK f k) p).setIfInBounds (1 + k) (U64 (f k)) = sgA q (fK f (k + 1)) p := by
  apply Array.ext_getElem?
  intro i
  rw [Array.getElem?_setIfInBounds, sgA_size]
  by_cases hi : i < 20
  · rw [sgA_get _ _ _ _ hi, sgA_get _ _ _ _ hi]
    by_cases e : 1 + k = i
    · subst e
      rw [if_pos rfl, if_pos hi]
      unfold sgF fK
      rw [if_neg (by omega), if_neg (by omega), Nat.add_sub_cancel_left, if_pos (by omega)]
    · rw [if_neg e]
      unfold sgF fK
      split
      · rfl
      · split
        · rfl
        · by_cases h1 : i - 1 < k
          · rw [if_pos h1, if_pos (by omega)]
          · rw [if_neg h1, if_neg (by omega)]
  · rw [if_neg (by omega), Array.getElem?_eq_none (by rw [sgA_size]; omega), Array.getElem?_eq_none (by rw [sgA_size]; omega)]
end Go.Proofs.Ytaoipbndmfjmhaa
