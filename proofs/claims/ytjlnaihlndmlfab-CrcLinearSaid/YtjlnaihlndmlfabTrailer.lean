/- CrcTrailer returns true. -/
import Derived.Test.YtjlnaihlndmlfabSteps
import Derived.Laws.OwnMore
namespace Go.Proofs.Ytjlnaihlndmlfab
open Go.RowKit Go.Joins

/-- The first k bytes of a register. -/
def bytesTo (x : BitVec 32) (k : Nat) : List (BitVec 8) := (List.range k).map fun i => (x >>> (8 * i)).setWidth 8
theorem up_bytes (r x : BitVec 32) : ∀ k, up r (bytesTo x k) = it (8 * k) (r ^^^ x) ^^^ (x >>> (8 * k))
  | 0 => by simp [bytesTo, up, it, BitVec.xor_assoc]
  | k + 1 => by
    have hs : bytesTo x (k + 1) = bytesTo x k ++ [(x >>> (8 * k)).setWidth 8] := by unfold bytesTo; rw [List.range_succ, List.map_append]; rfl
    rw [hs, up_snoc, up_bytes r x k]
    unfold by8
    rw [BitVec.xor_assoc, it_xor, show 8 * (k + 1) = 8 * k + 8 by omega, it_add]
    congr 1
    rw [show x >>> (8 * k + 8) = x >>> (8 * k) >>> 8 from BitVec.shiftRight_add x (8 * k) 8]
    generalize x >>> (8 * k) = y at *
    have hl : ∀ i, i < 8 → (y ^^^ (y.setWidth 8).setWidth 32).getLsbD i = false := fun i hi => by
      simp only [BitVec.getLsbD_xor, BitVec.getLsbD_setWidth]
      rw [decide_eq_true hi, decide_eq_true (by omega : i < 32)]; simp
    rw [it_low 8 _ hl]
    apply BitVec.eq_of_getLsbD_eq
    intro i _
    simp only [BitVec.getLsbD_ushiftRight, BitVec.getLsbD_xor, BitVec.getLsbD_setWidth]
    rw [decide_eq_false (by omega : ¬ 8 + i < 8)]; simp
theorem up_trailer (r x : BitVec 32) : up r (trailer x) = it 32 (r ^^^ x) := by
  have := up_bytes r x 4
  rw [show bytesTo x 4 = trailer x from rfl] at this
  have h0 : x >>> (8 * 4) = 0#32 := by
    apply BitVec.eq_of_getLsbD_eq
    intro i _
    rw [BitVec.getLsbD_ushiftRight, BitVec.getLsbD_of_ge _ _ (by omega), BitVec.getLsbD_zero]
  rw [this, h0, BitVec.xor_zero]
theorem xor_not (r : BitVec 32) : r ^^^ ~~~ r = BitVec.allOnes 32 := by
  apply BitVec.eq_of_getLsbD_eq
  intro i hi
  rw [BitVec.getLsbD_xor, BitVec.getLsbD_not, BitVec.getLsbD_allOnes]
  cases r.getLsbD i <;> simp [hi]
theorem sum_app (l : List (BitVec 8)) : sum (app l) = sum (app []) := by
  have h : ∀ l, sum (app l) = ~~~ (it 32 (BitVec.allOnes 32)) := fun l => by
    unfold app
    show ~~~ (up (~~~ 0#32) (l ++ trailer (sum l))) = _
    rw [up_append, up_trailer]
    congr 2
    exact xor_not _
  rw [h l, h []]
theorem trailer_inj {x y : BitVec 32} : trailer x = trailer y ↔ x = y := by
  constructor
  · intro h
    have h1 := up_trailer 0#32 x
    rw [h, up_trailer] at h1
    have := it_inj.1 h1
    simpa using this.symm
  · rintro rfl; rfl
theorem sum_trailer (x y : BitVec 32) : sum (trailer x) = sum (trailer y) ↔ x = y := by
  unfold sum upd
  rw [not_inj, up_trailer, up_trailer, it_inj]
  constructor
  · intro h
    have := congrArg (~~~ (0#32) ^^^ ·) h
    simpa only [← BitVec.xor_assoc, BitVec.xor_self, BitVec.zero_xor] using this
  · rintro rfl; rfl
theorem sh8 (o : BitVec 32) (k : Nat) (d : Int) (hd : d = 2 ^ k) : ((o.toNat : Int) / d) % 256 = (((o >>> k).setWidth 8).toNat : Int) := by
  rw [BitVec.toNat_setWidth, BitVec.toNat_ushiftRight, Nat.shiftRight_eq_div_pow, hd]
  rw [Int.natCast_emod, Int.natCast_ediv]
  simp
theorem sh0 (o : BitVec 32) : (o.toNat : Int) % 256 = ((o.setWidth 8).toNat : Int) := by rw [BitVec.toNat_setWidth]; omega
theorem trailer_eq (o : BitVec 32) : trailer o = [o.setWidth 8, (o >>> 8).setWidth 8, (o >>> 16).setWidth 8, (o >>> 24).setWidth 8] := by
  unfold trailer; simp [List.range_succ]

theorem sum_n {A : Option Addr} {cap : Nat} {l : List (BitVec 8)} (n : Nat) (hn : l.length = n) (s : BitVec 32) (hs : sum l = s) (hlen : n ≤ 1048576) (W : World) (h : isB A l W) :
    Calls Try.prog 14 #[.slice A n cap] W fun e w' => e = .returned (U32 s) ∧ Below W.heap.size W w' := by subst hn hs; exact sum_any A cap l (by omega) W h
theorem update_n {A : Option Addr} {cap : Nat} {l : List (BitVec 8)} (n : Nat) (hn : l.length = n) (x s : BitVec 32) (hs : upd x l = s) (hlen : n ≤ 1048576) (W : World) (h : isB A l W) :
    Calls Try.prog 16 #[U32 x, .slice A n cap] W fun e w' => e = .returned (U32 s) ∧ Below W.heap.size W w' := by subst hn hs; exact update_any A cap l (by omega) x W h
theorem append_n {A : Option Addr} {cap : Nat} {l : List (BitVec 8)} (n m : Nat) (hn : l.length = n) (hm : n + 4 = m) (hlen : n ≤ 1048576) (W : World) (h : isB A l W) :
    Calls Try.prog 10 #[.slice A n cap] W fun e w' => ∃ B c, e = .returned (.slice B m c) ∧ isB B (app l) w' ∧ m ≤ c ∧ Below W.heap.size W w' := by subst hn hm; exact append_any A cap l hlen W h
theorem check_n {A : Option Addr} {cap : Nat} {l : List (BitVec 8)} (n : Nat) (hn : l.length = n) (d : List (BitVec 8)) (k : Nat) (hk : d.length = k) (x : Int) (hck : ck l = (d, x)) (hlen : n ≤ 1048576) (hcap : n ≤ cap) (W : World) (h : isB A l W) :
    Calls Try.prog 11 #[.slice A n cap] W fun e w' => ∃ B c, e = .returned (.tuple #[.slice B k c, .int .i64 x]) ∧ isB B d w' ∧ Below W.heap.size W w' := by
  subst hn hk
  refine (check_any A cap l hlen hcap W h).mono ?_
  rintro e w' ⟨B, c, h1, h2, h3⟩
  rw [hck] at h1 h2
  exact ⟨B, c, h1, h2, h3⟩
theorem bytes_n {A B : Option Addr} {ca cb : Nat} {l m : List (BitVec 8)} (n k : Nat) (hn : l.length = n) (hk : m.length = k) (q : Bool) (hq : decide (l = m) = q) (W : World) (hl : isB A l W) (hm : isB B m W) :
    Calls Try.prog 13 #[.slice A n ca, .slice B k cb] W fun e w' => e = .returned (.bool q) ∧ w' = W := by subst hn hk hq; exact bytes_any A B ca cb l m W hl hm
/-- An empty slice of one's own. -/
theorem own_empty {base : Nat} (W : World) (hb : base ≤ W.heap.size) : (W.alloc (.cells #[] 5)).ownsRow base 5 1 (.slice (some ⟨W.heap.size, 0, none⟩) 0 0) 0 [] :=
  World.ownsRow_lit W #[] 0 hb (by decide) rfl

namespace Trailer
set_option maxRecDepth 100000 in
set_option maxHeartbeats 4000000 in
theorem walk (A : Option Addr) (cap : Nat) (l : List (BitVec 8)) (o : Int) (w : World) (hd : Data w A cap l) (ho0 : 0 ≤ o) (ho1 : o ≤ 4294967295) :
    Calls Try.prog 6 #[.slice A l.length cap, .int .u32 o] w fun e w' => e = .returned (.bool true) ∧ Below w.heap.size w w' := by
  obtain ⟨o, rfl⟩ := int_bv (n := 32) ho0 (by omega)
  have hcap := hd.cap
  have hlc := hd.len
  have HW : Hid (∀ W : World, _) := fun W => Aw.walk W
  by_cases hn : l.length > 300
  · generalize l.length = n at hn hlc ⊢
    clear hd
    go_enter Try.func6, Try.ntmps6
    go_wp2_with fail
    (with_reducible refine (HW.out _).mono ?_); rintro e w1 ⟨rfl, hb⟩
    go_wp2_with fail
    go_ret
    exact ⟨rfl, hb⟩
  · obtain ⟨i0, hi, hz0, hz1, hz2⟩ := info_parts infoB
    have hp : ∃ (d : List (BitVec 8)) (k : Nat) (x : Int) (q : Bool), d.length = k ∧ ck (l ++ trailer o) = (d, x) ∧ decide (l ++ trailer o = app l) = q ∧ (x == 0) = q := by
      by_cases h : app l = l ++ trailer o
      · refine ⟨l, _, 0, true, rfl, ?_, by rw [h]; simp, rfl⟩
        unfold ck
        rw [List.length_append, trailer_len, show l.length + 4 - 4 = l.length by omega, List.take_left, if_pos ⟨by omega, h⟩]
      · refine ⟨[], _, 40, false, rfl, ?_, decide_eq_false fun h2 => h h2.symm, rfl⟩
        unfold ck
        rw [List.length_append, trailer_len, show l.length + 4 - 4 = l.length by omega, List.take_left, if_neg fun h2 => h h2.2]
    obtain ⟨d, k, x, q, hk, hck, hq, hx⟩ := hp
    obtain ⟨n, hln⟩ : ∃ n, l.length = n := ⟨_, rfl⟩
    rw [hln] at hn hlc ⊢
    have hn300 : n ≤ 300 := by omega
    have hll : (l ++ trailer o).length = n + 4 := by rw [List.length_append, trailer_len, hln]
    have hal : (app l).length = n + 4 := by rw [app_len, hln]
    have HA := Lib.hid (append_n (cap := cap) n (n + 4) hln rfl (by omega) w hd.row)
    have HC : Hid (∀ (B : Option Addr) (c : Nat) (W : World), n + 4 ≤ c → isB B (l ++ trailer o) W → _) := fun B c W hc h => check_n (n + 4) hll d k hk x hck (by omega) hc W h
    have HB : Hid (∀ (B : Option Addr) (c : Nat) (W : World), isB B l W → isB A l W → _) := fun B c W h1 h2 => bytes_n (ca := c) (cb := cap) n n hln hln true (decide_eq_true rfl) W h1 h2
    have HB2 : Hid (∀ (B B' : Option Addr) (c c' : Nat) (W : World), isB B (l ++ trailer o) W → isB B' (app l) W → _) := fun B B' c c' W h1 h2 => bytes_n (ca := c) (cb := c') (n + 4) (n + 4) hll hal q hq W h1 h2
    have HS : Hid (∀ (B : Option Addr) (c : Nat) (W : World), isB B (app l) W → _) := fun B c W h => sum_n (cap := c) (n + 4) hal _ (sum_app l) (by omega) W h
    have HN : Hid (∀ W : World, _) := fun W => append_n (A := none) (cap := 0) (l := []) 0 4 rfl rfl (by decide) W (isB.nil _ _)
    have HS2 : Hid (∀ (B : Option Addr) (c : Nat) (W : World), isB B (app []) W → _) := fun B c W h => sum_n (cap := c) 4 (by decide) _ rfl (by decide) W h
    have hone := cellsB_one l
    have hcl : (cellsB l).length = n * 1 := by rw [cellsB_len, hln, Nat.mul_one]
    have t0 := sh0 o
    have t1 := sh8 o 8 256 (by decide)
    have t2 := sh8 o 16 65536 (by decide)
    have t3 := sh8 o 24 16777216 (by decide)
    rw [Int.emod_eq_of_lt (by omega) (by omega)] at t3
    have hct : Hid (cellsB (l ++ trailer o) = cellsB l ++ [U8 (o.setWidth 8), U8 ((o >>> 8).setWidth 8), U8 ((o >>> 16).setWidth 8), U8 ((o >>> 24).setWidth 8)]) := by
      unfold Hid; rw [cellsB_append, trailer_eq]; rfl
    have HT : Hid (∀ (v : World) (g : Option Addr) (c base : Nat), v.ownsRow base 5 1 (.slice g (n + 4) c) (n + 4) (cellsB (l ++ trailer o)) → isB g (l ++ trailer o) v ∧ n + 4 ≤ c) := fun v g c _ h => ⟨isB_of_own h, own_cap h⟩
    have hd' : Hid (∀ v : World, Below w.heap.size w v → isB A l v) := fun v h => hd.row.keep h
    have htk : Hid (∀ (B : Option Addr) (v : World), isB B (app l) v → isB B l v) := fun B v h => by
      have := h.take l.length
      rwa [app, List.take_left] at this
    have HLN := Lib.hid hln
    clear hk hck hq hll hal hd hln hn
    generalize sum (app []) = sn at HS HS2
    generalize o.setWidth 8 = z0 at t0 hct
    generalize (o >>> 8).setWidth 8 = z1 at t1 hct
    generalize (o >>> 16).setWidth 8 = z2 at t2 hct
    generalize (o >>> 24).setWidth 8 = z3 at t3 hct
    generalize o.toNat = on at t0 t1 t2 t3 ho0 ho1 ⊢
    go_enter Try.func6, Try.ntmps6
    go_wp2_with fail
    (with_reducible refine HA.out.mono ?_); rintro e w1 ⟨B1, c1, rfl, h1, hc1, hb1⟩
    have h1l := htk.out _ _ h1
    have hA1 := hd'.out _ hb1
    go_wp2_with fail
    (with_reducible refine (HB.out _ _ _ h1l hA1).mono ?_); rintro e w1' ⟨rfl, rfl⟩
    clear h1l
    have hoe := own_empty w1' (Nat.le_refl _)
    have hBe := (Below.refl w1'.heap.size w1').alloc (Nat.le_refl _) (.cells #[] 5)
    have hAn := (hd'.out _ (hb1.trans (hBe.mono hb1.size))).news
    rw [HLN.out] at hAn
    have ho1 : Hid (∀ (v : World) (o : Obj), Below w1'.heap.size w1' v → Below w1'.heap.size w1' (v.alloc o)) := fun v o h => h.alloc h.size o
    have hone4 : ∀ u ∈ [U8 z0, U8 z1, U8 z2, U8 z3], u.oneCell' = true := by simp [Value.oneCell']
    simp only [U8] at hone4 hct
    go_wp2_with (first
      | (at_builtin; refine app_any _ rfl (.tmp 31) (.tmp 32) 22 rfl w1'.heap.size 5 i0 _ 1 1 Try.underlying22 hi hz0 hz1 hz2 rfl (by decide) (.slice (some ⟨w1'.heap.size, 0, none⟩) 0 0) 0 [] rfl hoe A n cap (cellsB l) rfl hcl hAn hone (by unfold maxLen; omega) (by omega) hBe.size ?_; intro v2 w2 hown2 hg2; have hB2 : Below w1'.heap.size w1' w2 := hBe.grown hg2 hBe.size (fun k e => own_block_le hoe k e); rw [Nat.zero_add, List.nil_append] at hown2; obtain ⟨g2, cg2, rfl⟩ := own_slice hown2; have hown2' := hown2.alloc (.cells #[.int .u8 (z0.toNat : Int), .int .u8 (z1.toNat : Int), .int .u8 (z2.toNat : Int), .int .u8 (z3.toNat : Int)] 5); have hB2' := ho1.out _ (.cells #[.int .u8 (z0.toNat : Int), .int .u8 (z1.toNat : Int), .int .u8 (z2.toNat : Int), .int .u8 (z3.toNat : Int)] 5) hB2; have hNw := World.news_of_block (heap_alloc_new w2 (.cells #[.int .u8 (z0.toNat : Int), .int .u8 (z1.toNat : Int), .int .u8 (z2.toNat : Int), .int .u8 (z3.toNat : Int)] 5)))
      | (at_builtin; refine app_any _ rfl (.tmp 33) (.tmp 45) 22 rfl w1'.heap.size 5 i0 _ 1 1 Try.underlying22 hi hz0 hz1 hz2 rfl (by decide) (.slice g2 n cg2) n _ rfl hown2' (some ⟨w2.heap.size, 0, none⟩) 4 4 [.int .u8 (z0.toNat : Int), .int .u8 (z1.toNat : Int), .int .u8 (z2.toNat : Int), .int .u8 (z3.toNat : Int)] rfl rfl (fun _ => ⟨_, rfl, hNw⟩) hone4 (by unfold maxLen; omega) (by omega) hB2'.size ?_; intro v3 w3 hown3 hg3; have hB3 : Below w1'.heap.size w1' w3 := hB2'.grown hg3 hB2'.size (fun k e => own_block_le hown2' k e); obtain ⟨g3, cg3, rfl⟩ := own_slice hown3))
    rw [← hct.out] at hown3
    obtain ⟨h3, hc3⟩ := HT.out _ _ _ _ hown3
    have h1' : Hid (∀ v : World, Below w1'.heap.size w1' v → isB B1 (app l) v) := fun v h => h1.keep h
    have hW3 := hb1.trans (hB3.mono hb1.size)
    have h1 := h1'.out _ hB3
    clear hown2 hown2' hown3 hg2 hg3 hNw hB2 hB2' hoe hBe hAn h1' hB3
    go_wp2_with fail
    (with_reducible refine (HC.out _ _ _ hc3 h3).mono ?_); rintro e w4 ⟨B4, c4, rfl, -, hb4⟩
    replace h3 := h3.keep hb4
    replace h1 := h1.keep hb4
    have hW4 := hW3.trans (hb4.mono hW3.size)
    clear hW3 hb4
    go_wp2_with fail
    (with_reducible refine (HB2.out _ _ _ _ _ h3 h1).mono ?_); rintro e w5 ⟨rfl, rfl⟩
    clear h3
    go_wp2_with fail
    (with_reducible refine (HS.out _ _ _ h1).mono ?_); rintro e w6 ⟨rfl, hb6⟩
    have hW6 := hW4.trans (hb6.mono hW4.size)
    clear hW4 hb6 h1
    go_wp2_with fail
    (with_reducible refine (HN.out _).mono ?_); rintro e w7 ⟨B7, c7, rfl, h7, -, hb7⟩
    have hW7 := hW6.trans (hb7.mono hW6.size)
    clear hW6 hb7
    go_wp2_with fail
    (with_reducible refine (HS2.out _ _ _ h7).mono ?_); rintro e w8 ⟨rfl, hb8⟩
    have hW8 := hW7.trans (hb8.mono hW7.size)
    clear hW7 hb8 h7
    go_wp2_with fail
    (with_reducible refine (HW.out _).mono ?_); rintro e w9 ⟨rfl, hb9⟩
    have hW9 := hW8.trans (hb9.mono hW8.size)
    clear hW8 hb9
    go_wp2_with fail
    go_ret
    exact ⟨rfl, hW9⟩
end Trailer
end Go.Proofs.Ytjlnaihlndmlfab
