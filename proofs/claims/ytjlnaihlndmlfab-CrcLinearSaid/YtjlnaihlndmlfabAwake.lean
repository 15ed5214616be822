/- The law package's awake: the examples of the chapter. -/
import Derived.Test.YtjlnaihlndmlfabComb
import Derived.Lib.SlBytesConst
namespace Go.Proofs.Ytjlnaihlndmlfab
open Go.RowKit Go.Joins
namespace Aw

def nine : List (BitVec 8) := [49, 50, 51, 52, 53, 54, 55, 56, 57]
theorem sum_nil : sum [] = 0#32 := by decide +kernel
theorem sum_nine : sum nine = 3421780262#32 := by decide +kernel
theorem sum_0 : sum [0] = 3523407757#32 := by decide +kernel
theorem sum_4 : sum [49, 50, 51, 52] = 2615402659#32 := by decide +kernel
theorem sum_5 : sum [53, 54, 55, 56, 57] = 320708720#32 := by decide +kernel
theorem comb_9 : comb 2615402659#32 320708720#32 5 = 3421780262#32 := by decide +kernel
theorem app_nil : app [] = [0, 0, 0, 0] := by decide +kernel
theorem ck_5 : ck [0, 0, 0, 0, 1] = ([], 40) := by decide +kernel

/-- A slice that was just built of bytes. -/
theorem isB_lit (W : World) (l : List (BitVec 8)) (cs : Array Value) (h : cs.toList = cellsB l) (fr : Nat × Nat := (0, 0)) : isB (some ⟨W.heap.size, 0, none⟩) l (W.alloc (.cells cs 5 fr)) := fun _ =>
  ⟨W.heap.size, 0, rfl, by simp, fun k z hk => by
    rw [cell_of_row (W.alloc (.cells cs 5 fr)) W.heap.size (0 + k) cs 5 fr (heap_alloc_new W _), Nat.zero_add, ← Array.getElem?_toList, h, cellsB_get, hk]; rfl⟩
theorem isB.drop {b off : Nat} {l : List (BitVec 8)} {W : World} (h : isB (some ⟨b, off, none⟩) l W) (k : Nat) : isB (some ⟨b, off + k, none⟩) (l.drop k) W := fun hne => by
  obtain ⟨b', off', e, hb, hr⟩ := h (by intro e; rw [e] at hne; simp at hne)
  cases e
  exact ⟨b, off + k, rfl, hb, fun j z hj => by rw [Nat.add_assoc]; exact hr (k + j) z (by rw [List.getElem?_drop] at hj; exact hj)⟩

theorem bt {W c v : World} (h : Below W.heap.size W c) (hb : Below c.heap.size c v) : Below W.heap.size W v := h.trans (hb.mono h.size)
theorem ba {W c : World} (h : Below W.heap.size W c) (o : Obj) : Below W.heap.size W (c.alloc o) := h.alloc h.size o
theorem bd (W : World) : Below W.heap.size W W.drew := (Below.refl _ _).drew
theorem ia {A : Option Addr} {l : List (BitVec 8)} {W : World} (h : isB A l W) (o : Obj) : isB A l (W.alloc o) := h.keep ((Below.refl _ _).alloc (Nat.le_refl _) _)

set_option maxRecDepth 100000 in
set_option maxHeartbeats 8000000 in
theorem walk (w : World) : Calls Try.prog 9 #[] w fun e w' => e = .returned (.bool true) ∧ Below w.heap.size w w' := by
  have hcv := fun (w : World) (C : Array Value) (n c : Nat) => Lib.run_convert_bytes_const (P := Try.prog) w 22 5 C n c Try.underlying22 Try.underlying5
  have h9 := isB_lit w nine #[.int .u8 49, .int .u8 50, .int .u8 51, .int .u8 52, .int .u8 53, .int .u8 54, .int .u8 55, .int .u8 56, .int .u8 57] rfl (9, 10)
  have hB0 : Below w.heap.size w (w.alloc (.cells #[.int .u8 49, .int .u8 50, .int .u8 51, .int .u8 52, .int .u8 53, .int .u8 54, .int .u8 55, .int .u8 56, .int .u8 57] 5 (9, 10))) := (Below.refl _ _).alloc (Nat.le_refl _) _
  have hsz : (w.alloc (.cells #[.int .u8 49, .int .u8 50, .int .u8 51, .int .u8 52, .int .u8 53, .int .u8 54, .int .u8 55, .int .u8 56, .int .u8 57] 5 (9, 10))).heap.size = w.heap.size + 1 := by simp
  have HS := Lib.hid hsz
  clear hsz
  go_enter Try.func9, Try.ntmps9
  go_wp2_with fail
  clear hcv
  generalize w.alloc (.cells #[.int .u8 49, .int .u8 50, .int .u8 51, .int .u8 52, .int .u8 53, .int .u8 54, .int .u8 55, .int .u8 56, .int .u8 57] 5 (9, 10)) = W0 at h9 hB0 HS ⊢
  obtain ⟨g, hg⟩ : ∃ g, w.heap.size = g := ⟨_, rfl⟩
  rw [hg] at h9 hB0 HS ⊢
  have HG := Lib.hid hg
  clear hg
  have hk := check_any (some ⟨W0.heap.size, 0, none⟩) 5 [0, 0, 0, 0, 1] (by decide) (by decide) _ (isB_lit W0 [0, 0, 0, 0, 1] #[.int .u8 0, .int .u8 0, .int .u8 0, .int .u8 0, .int .u8 1] rfl)
  rw [show ([0, 0, 0, 0, 1] : List (BitVec 8)).length = 5 from rfl, HS.out] at hk
  (with_reducible refine hk.mono ?_); rintro e W1 ⟨B, c, he, hi, hb⟩
  rw [ck_5] at he
  obtain rfl := he
  replace h9 := (h9.keep ((Below.refl _ W0).alloc (Nat.le_refl _) _)).keep hb
  have hB1 := (hB0.alloc (by rw [← HG.out]; exact hB0.size) _).trans (hb.mono (by have := hB0.size; have := HG.out; simp; omega))
  clear hk hi hb hB0
  go_wp2_with fail
  have H0 : Hid (∀ W : World, Calls Try.prog 14 #[.slice none 0 0] (W) fun e w' => e = .returned (.int .u32 0) ∧ Below (W).heap.size (W) w') := fun W => by
    have := sum_any none 0 [] (by decide) W (isB.nil _ _); rw [sum_nil] at this; exact this
  have H9 : Hid (∀ W : World, Below W1.heap.size W1 W → Calls Try.prog 14 #[.slice (some ⟨g, 0, none⟩) 9 9] (W) fun e w' => e = .returned (.int .u32 3421780262) ∧ Below (W).heap.size (W) w') := fun W hb => by
    have := sum_any (some ⟨g, 0, none⟩) 9 nine (by decide) W (h9.keep hb); rw [sum_nine] at this; exact this
  have HZ : Hid (∀ W : World, Calls Try.prog 14 #[.slice (some ⟨W.heap.size, 0, none⟩) 1 1] (W.alloc (.cells #[.int .u8 0] 5)) fun e w' => e = .returned (.int .u32 3523407757) ∧ Below (W.alloc (.cells #[.int .u8 0] 5)).heap.size (W.alloc (.cells #[.int .u8 0] 5)) w') := fun W => by
    have := sum_any (some ⟨W.heap.size, 0, none⟩) 1 [0] (by decide) _ (isB_lit W [0] #[.int .u8 0] rfl); rw [sum_0] at this; exact this
  have HA : Hid (∀ W : World, Calls Try.prog 10 #[.slice none 0 0] W fun e w' => ∃ B c, e = .returned (.slice B 4 c) ∧ isB B [0, 0, 0, 0] w' ∧ Below W.heap.size W w') := fun W => by
    have := append_any none 0 [] (by decide) W (isB.nil _ _); rw [app_nil] at this
    exact this.mono fun e w' ⟨B, c, h1, h2, _, h3⟩ => ⟨B, c, h1, h2, h3⟩
  have H4 : Hid (∀ W : World, Below W1.heap.size W1 W → Calls Try.prog 14 #[.slice (some ⟨g, 0, none⟩) 4 9] (W) fun e w' => e = .returned (.int .u32 2615402659) ∧ Below (W).heap.size (W) w') := fun W hb => by
    have := sum_any (some ⟨g, 0, none⟩) 9 [49, 50, 51, 52] (by decide) W ((h9.take 4).keep hb); rw [sum_4] at this; exact this
  have H5 : Hid (∀ W : World, Below W1.heap.size W1 W → Calls Try.prog 14 #[.slice (some ⟨g, 4, none⟩) 5 5] (W) fun e w' => e = .returned (.int .u32 320708720) ∧ Below (W).heap.size (W) w') := fun W hb => by
    have := sum_any (some ⟨g, 0 + 4, none⟩) 5 [53, 54, 55, 56, 57] (by decide) W ((isB.drop h9 4).keep hb); rw [sum_5] at this; exact this
  have HC : Hid (∀ W : World, Calls Try.prog 15 #[.int .u32 2615402659, .int .u32 320708720, .int .i64 5] (W) fun e w' => e = .returned (.int .u32 3421780262) ∧ Below (W).heap.size (W) w') := fun W => by
    have := combine_any 2615402659#32 320708720#32 5 (by decide) W; rw [comb_9] at this; exact this
  have HBy : Hid (∀ (A B : Option Addr) (ca cb : Nat) (W : World), isB A [0, 0, 0, 0] W → isB B [0, 0, 0, 0] W → Calls Try.prog 13 #[.slice A 4 ca, .slice B 4 cb] W fun e w' => e = .returned (.bool true) ∧ w' = W) := fun A B ca cb W h1 h2 => bytes_any A B ca cb _ _ W h1 h2
  go_region_with (first
    | (go_at_call 14; (with_reducible refine (H0.out _).mono ?_); rintro e v ⟨rfl, hb⟩; have hW := bt (W := W1) (by (first | assumption | exact bd _ | exact ba (by assumption) _ | exact ba (bd _) _)) hb)
    | (go_at_call 14; (with_reducible refine (H9.out _ ?_).mono ?_); (first | assumption | exact bd _ | exact ba (by assumption) _ | exact ba (bd _) _); rintro e v ⟨rfl, hb⟩; have hW := bt (W := W1) (by (first | assumption | exact bd _ | exact ba (by assumption) _ | exact ba (bd _) _)) hb)
    | (go_at_call 14; (with_reducible refine (HZ.out _).mono ?_); rintro e v ⟨rfl, hb⟩; have hW := bt (W := W1) (by (first | assumption | exact bd _ | exact ba (by assumption) _ | exact ba (bd _) _)) hb)
    | (go_at_call 14; (with_reducible refine (H4.out _ ?_).mono ?_); (first | assumption | exact bd _ | exact ba (by assumption) _ | exact ba (bd _) _); rintro e v ⟨rfl, hb⟩; have hW := bt (W := W1) (by (first | assumption | exact bd _ | exact ba (by assumption) _ | exact ba (bd _) _)) hb)
    | (go_at_call 14; (with_reducible refine (H5.out _ ?_).mono ?_); (first | assumption | exact bd _ | exact ba (by assumption) _ | exact ba (bd _) _); rintro e v ⟨rfl, hb⟩; have hW := bt (W := W1) (by (first | assumption | exact bd _ | exact ba (by assumption) _ | exact ba (bd _) _)) hb)
    | (go_at_call 10; (with_reducible refine (HA.out _).mono ?_); rintro e v ⟨B2, c2, rfl, hi, hb⟩; have hW := bt (W := W1) (by (first | assumption | exact bd _ | exact ba (by assumption) _ | exact ba (bd _) _)) hb)
    | (go_at_call 13; (with_reducible refine (HBy.out _ _ _ _ _ ?_ ?_).mono ?_); (first | assumption | exact ia (by assumption) _ | exact isB_lit _ _ _ rfl | exact (isB_lit _ _ _ rfl).keep (by assumption)); (first | assumption | exact ia (by assumption) _ | exact isB_lit _ _ _ rfl | exact (isB_lit _ _ _ rfl).keep (by assumption)); rintro e v ⟨rfl, rfl⟩)
    | (go_at_call 15; (with_reducible refine (HC.out _).mono ?_); rintro e v ⟨rfl, hb⟩; have hW := bt (W := W1) (by (first | assumption | exact bd _ | exact ba (by assumption) _ | exact ba (bd _) _)) hb))
  all_goals
    rename_i v _ _
    have hF : Hid (Below w.heap.size w v) := by
      unfold Hid
      have h := hB1.trans (Below.mono hW (by have := hB1.size; have := HG.out; omega))
      rw [HG.out]; exact h
    clear hB1 hW
    go_wp2
    go_ret
    exact ⟨rfl, hF.out⟩
end Aw
end Go.Proofs.Ytjlnaihlndmlfab
