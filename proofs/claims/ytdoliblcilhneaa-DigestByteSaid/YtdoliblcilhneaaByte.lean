/- DigestByte returns true. -/
import Derived.Test.YtdoliblcilhneaaShare
namespace Go.Proofs.Ytdoliblcilhneaa
open Go.RowKit Go.Joins
namespace DByte

set_option maxRecDepth 100000 in
set_option maxHeartbeats 4000000 in
theorem walk (A : Option Addr) (cap : Nat) (l : List (BitVec 8)) (at' x : Int) (w : World) (hd : Data w A cap l) (ha0 : -9223372036854775808 ≤ at') (ha1 : at' ≤ 9223372036854775807) (hx0 : 0 ≤ x) (hx1 : x ≤ 255) :
    Calls Try.prog 4 #[.slice A l.length cap, .int .i64 at', .int .u8 x] w fun e w' => e = .returned (.bool true) ∧ Below w.heap.size w w' := by
  obtain ⟨x, rfl⟩ := int_bv (n := 8) hx0 (by omega)
  have hcap := hd.cap
  have hlc := hd.len
  have HW : Hid (∀ W : World, _) := fun W => Aw.walk W
  obtain ⟨n, hn⟩ : ∃ n, l.length = n := ⟨_, rfl⟩
  rw [hn] at hlc ⊢
  by_cases hg : n = 0 ∨ n > 300 ∨ at' < 0 ∨ at' ≥ n
  · have hp : (((n : Int) == 0) = true) ∨ (((n : Int) == 0) = false ∧ decide ((300 : Int) < n) = true) ∨ (((n : Int) == 0) = false ∧ decide ((300 : Int) < n) = false ∧ decide (at' < 0) = true) ∨ (((n : Int) == 0) = false ∧ decide ((300 : Int) < n) = false ∧ decide (at' < 0) = false ∧ decide ((n : Int) ≤ at') = true) := by
      simp only [decide_eq_true_eq, decide_eq_false_iff_not, beq_iff_eq, beq_eq_false_iff_ne]; omega
    clear hd hn hg
    rcases hp with h1 | ⟨h1, h2⟩ | ⟨h0, h1, h2⟩ | ⟨h0, h1, h2, h3⟩
    all_goals
      go_enter Try.func4, Try.ntmps4
      go_wp2_with fail
      (with_reducible refine (HW.out _).mono ?_); rintro e w1 ⟨rfl, hb⟩
      go_wp2_with fail
      go_ret
      exact ⟨rfl, hb⟩
  · obtain ⟨k, rfl⟩ : ∃ k : Nat, at' = k := ⟨at'.toNat, by omega⟩
    obtain ⟨i0, hi, hz0, hz1, hz2⟩ := info_parts infoB
    have hn3 : n ≤ 300 := by omega
    have hk : k < n := by omega
    have hgk : l[k]? = some (l[k]'(by omega)) := List.getElem?_eq_getElem _
    obtain ⟨b, hb⟩ : ∃ b, l[k]'(by omega) = b := ⟨_, rfl⟩
    rw [hb] at hgk
    have q1 : (((dg l).toNat : Int) == ((dg (l.set k (b ^^^ x))).toNat : Int)) = decide (x = 0#8) := by
      rw [beq_bv]; exact decide_eq_decide.2 ((dg_set l k b (b ^^^ x) hgk).trans (xor_eq_self b x))
    have q2 : ((x.toNat : Int) == 0) = decide (x = 0#8) := beq_bv x 0#8
    have q3 := xor8 b x
    obtain ⟨s, hs⟩ : ∃ s, dg l = s := ⟨_, rfl⟩
    obtain ⟨t, ht⟩ : ∃ t, dg (l.set k (b ^^^ x)) = t := ⟨_, rfl⟩
    have HO : Hid (∀ W, isB A l W → _) := fun W h => of_n (cap := cap) n hn s hs (by omega) W h
    have HO2 : Hid (∀ (G : Option Addr) (c : Nat) (W : World), isB G (l.set k (b ^^^ x)) W → _) := fun G c W h => of_n (cap := c) n (by rw [List.length_set, hn]) t ht (by omega) W h
    have KA : Hid (∀ v, Below w.heap.size w v → isB A l v) := fun v h => hd.row.keep h
    have hone := cellsB_one l
    have hcl : (cellsB l).length = n * 1 := by rw [cellsB_len, hn, Nat.mul_one]
    have hck : Hid ((cellsB l)[k]? = some (U8 b)) := by unfold Hid; rw [cellsB_get, hgk]; rfl
    rw [hs, ht] at q1
    generalize decide (x = 0#8) = q at q1 q2
    have hoe := own_empty w (Nat.le_refl _)
    have hBe := (Below.refl w.heap.size w).alloc (Nat.le_refl _) (.cells #[] 5)
    have hAn := (KA.out _ hBe).news
    rw [hn] at hAn
    have hset : Hid (∀ (W : World) (g c : Nat), W.ownsRow w.heap.size 5 1 (.slice (some ⟨g, 0, none⟩) n c) n (cellsB l) → isB (some ⟨g, 0, none⟩) (l.set k (b ^^^ x)) (W.setCell ⟨g, k, none⟩ (U8 (b ^^^ x)))) := fun W g c h => by
      have := own_set (j := k) h (b ^^^ x)
      have h2 := isB_of_own this
      exact h2
    clear hd hn hgk hb hs ht hg
    generalize l.set k (b ^^^ x) = m at HO2 hset
    generalize b ^^^ x = bx at q3 hset
    have hd0 : ((n : Int) == 0) = false := by rw [beq_eq_false_iff_ne]; omega
    have hd1 : decide ((300 : Int) < n) = false := by simp; omega
    have hd2 : decide ((k : Int) < 0) = false := by simp
    have hd3 : decide ((n : Int) ≤ k) = false := by simp; omega
    go_enter Try.func4, Try.ntmps4
    go_wp2_with (at_builtin; refine app_any _ rfl _ _ 22 rfl w.heap.size 5 i0 _ 1 1 Try.underlying22 hi hz0 hz1 hz2 rfl (by decide) (.slice (some ⟨w.heap.size, 0, none⟩) 0 0) 0 [] rfl hoe A n cap (cellsB l) rfl hcl hAn hone (by unfold maxLen; omega) (by omega) hBe.size ?_; intro v2 w2 hown2 hg2; have hB2 : Below w.heap.size w w2 := hBe.grown hg2 hBe.size (fun k e => own_block_le hoe k e); rw [Nat.zero_add, List.nil_append] at hown2; obtain ⟨g2, cg2, rfl⟩ := own_slice hown2; obtain ⟨gg, rfl, hgb, hgz, hgc, hgf⟩ := own_here hown2 (by omega) hck.out; have hst := hset.out _ _ _ hown2; have hB3 := hB2.setCell (p := ⟨gg, k, none⟩) hgb (U8 bx))
    clear hown2 hg2 hB2 hoe hBe hAn hgc hgf hck
    simp only [U8] at hst hB3
    generalize w2.setCell ⟨gg, k, none⟩ (.int .u8 bx.toNat) = W3 at hst hB3 ⊢
    (with_reducible refine (HO.out _ (KA.out _ hB3)).mono ?_); rintro e w4 ⟨rfl, hb⟩
    replace hst := hst.keep hb
    have hR := hB3.trans (hb.mono hB3.size)
    clear hb hB3
    go_wp2_with fail
    (with_reducible refine (HO2.out _ _ _ hst).mono ?_); rintro e w5 ⟨rfl, hb⟩
    replace hR := hR.trans (hb.mono hR.size)
    clear hb hst
    go_wp2_with fail
    (with_reducible refine (HW.out _).mono ?_); rintro e w6 ⟨rfl, hb⟩
    replace hR := hR.trans (hb.mono hR.size)
    clear hb
    go_wp2_with fail
    go_ret
    exact ⟨rfl, hR⟩
end DByte
end Go.Proofs.Ytdoliblcilhneaa
