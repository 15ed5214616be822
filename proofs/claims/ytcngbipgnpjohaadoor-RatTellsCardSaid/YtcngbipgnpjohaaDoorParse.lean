/- The contract of Parse where both parts are numerals; the contracts of text and some of the law's own package. -/
import Derived.Test.YtcngbipgnpjohaaDoorText
namespace Go.Proofs.YtcngbipgnpjohaaDoor
open Go.RowKit Go.Joins

/-- What the calls of strings.Cut, strconv.Atoi and strconv.Itoa lean on. -/
structure Env (W : World) : Prop where
  tab : Lib.TabIs Tryd.prog W "internal/strconv.uint64pow10" .u64 Lib.pow10Tab
  mx : ∃ m, W.cell? ⟨0, 0, none⟩ = some (.int .i64 m)
  mlt : 0 < W.heap.size

theorem Env.keep {w w' : World} (h : Env w) (hb : Below w.heap.size w w') : Env w' :=
  ⟨tab_keep h.tab hb, by obtain ⟨m, hm⟩ := h.mx; exact ⟨m, by rw [hb.cell h.mlt]; exact hm⟩, Nat.lt_of_lt_of_le h.mlt hb.size⟩

theorem cut_at (s sep top bottom : ByteArray) (sl : Bool) (w : World) (he : Env w) (hs : s.size ≤ 18) (hcut : Lib.cut s.data.toList sep.data.toList = (top.data.toList, bottom.data.toList, sl)) :
    Calls Tryd.prog 44 #[.string s, .string sep] w fun e w' => e = .returned (.tuple #[.string top, .string bottom, .bool sl]) ∧ ∃ n, w' = w.drewN n := by
  obtain ⟨m, hm⟩ := he.mx
  have h := Tryd.strings_Cut s sep m w (by omega) hm
  rw [hcut] at h
  exact h

theorem atoi_at (s : ByteArray) (n : Int) (w : World) (hs : s.size ≤ 18) (h : Lib.atoi s.data.toList = some n) :
    Calls Tryd.prog 45 #[.string s] w fun e w' => e = .returned (.tuple #[.int .i64 n, .nilIface]) ∧ Below w.heap.size w w' :=
  (Tryd.strconv_Atoi s n hs h w).mono fun _ _ ⟨he, _, hw⟩ => ⟨he, hw ▸ below_bytesWorld _ _ _ _ (Nat.le_refl _)⟩

/-- What Parse returns where both parts of the text are numerals n and d. -/
def parseN (n d : Int) (s : List UInt8) : Int × Int × Int := if strN n d = s then (n, d, 0) else (0, 0, 2)

theorem parse_cases (n d : Int) (s : ByteArray) : ∃ b r, (!strN n d == s.toList) = b ∧ (strN n d == s.toList) = !b ∧ parseN n d s.data.toList = r ∧ ((b = false ∧ r = (n, d, 0)) ∨ (b = true ∧ r = (0, 0, 2))) := by
  rw [ByteArray.toList_eq]
  by_cases h : strN n d = s.data.toList
  · exact ⟨false, (n, d, 0), by simp [h], by simp [h], by unfold parseN; rw [if_pos h], Or.inl ⟨rfl, rfl⟩⟩
  · exact ⟨true, (0, 0, 2), by simp [h], by simp [h], by unfold parseN; rw [if_neg h], Or.inr ⟨rfl, rfl⟩⟩

set_option maxHeartbeats 1000000 in
theorem parse_any (s top bottom den : ByteArray) (sl : Bool) (n d : Int) (w : World) (he : Env w) (hs : s.size ≤ 18)
    (hcut : Lib.cut s.data.toList [47] = (top.data.toList, bottom.data.toList, sl)) (hden : den = if sl then bottom else ⟨#[49]⟩) (hn : Lib.atoi top.data.toList = some n) (hd : Lib.atoi den.data.toList = some d)
    (ht : top.size ≤ 18) (hb : den.size ≤ 18) (n0 : -9223372036854775808 ≤ n) (n1 : n ≤ 9223372036854775807) (d0 : -9223372036854775808 ≤ d) (d1 : d ≤ 9223372036854775807) :
    Calls Tryd.prog 36 #[.string s] w fun e w' => e = .returned (ratV (parseN n d s.data.toList)) ∧ Below w.heap.size w w' := by
  have He := Lib.hid he
  clear he
  have hW0 : ∀ w2 : World, Below (w.alloc (.cells #[.int .i64 0, .int .i64 0] 23)).heap.size (w.alloc (.cells #[.int .i64 0, .int .i64 0] 23)) w2 → Below w.heap.size w w2 := fun w2 h =>
    ((Below.refl _ _).alloc (Nat.le_refl _) _).trans (h.mono (by simp))
  have HW0 := Lib.hid hW0
  clear hW0
  have Hcut := Lib.hid hcut
  have Hn := Lib.hid hn
  have Hd := Lib.hid hd
  have Hs := Lib.hid hs
  have Ht := Lib.hid ht
  have Hb := Lib.hid hb
  clear hcut hn hd hs ht hb
  cases sl <;> simp only [Bool.false_eq_true, if_false, if_true] at hden <;> subst hden <;> obtain ⟨b, r, q1, q2, q3, ⟨rfl, rfl⟩ | ⟨rfl, rfl⟩⟩ := parse_cases n d s
  all_goals
    rw [q3]
    clear q3
    go_enter Tryd.func36, Tryd.ntmps36
    go_wp2_with fail
    refine (cut_at s ⟨#[47]⟩ top _ _ _ (He.out.keep (HW0.out _ (Below.refl _ _))) Hs.out Hcut.out).mono ?_
    rintro e w1 ⟨rfl, k, rfl⟩
    have hw1 : Below (w.alloc (.cells #[.int .i64 0, .int .i64 0] 23)).heap.size (w.alloc (.cells #[.int .i64 0, .int .i64 0] 23)) ((w.alloc (.cells #[.int .i64 0, .int .i64 0] 23)).drewN k) := below_drewN (Below.refl _ _) _
    generalize (w.alloc (.cells #[.int .i64 0, .int .i64 0] 23)).drewN k = w1 at hw1 ⊢
    go_wp2_with fail
    refine (atoi_at top n _ Ht.out Hn.out).mono ?_
    rintro e w2 ⟨rfl, hw2⟩
    replace hw2 := bnext hw1 hw2
    clear hw1
    go_wp2_with fail
    refine (atoi_at _ d _ Hb.out Hd.out).mono ?_
    rintro e w3 ⟨rfl, hw3⟩
    replace hw3 := bnext hw2 hw3
    clear hw2
    go_wp2_with fail
    have e3 := He.out.keep (HW0.out _ hw3)
    have b3 : Below w3.heap.size w3 (w3.alloc (.cells #[.int .i64 n, .int .i64 d] 23)) := (Below.refl _ _).alloc (Nat.le_refl _) _
    refine (string_any n d _ (e3.keep b3).tab n0 n1 d0 d1).mono ?_
    rintro e w4 ⟨rfl, hw4⟩
    obtain ⟨hc, hf⟩ := bcell hw3
    obtain ⟨hc4, hf4⟩ := bcell hw4
    have k0 : w.heap.size < w3.heap.size := by have := hw3.size; simp at this; omega
    have k1 : w.heap.size < w3.heap.size + 1 := by omega
    simp only [World.size_alloc] at hc hf hc4 hf4
    have HB := Lib.hid (show Below w.heap.size w w4 from (HW0.out _ hw3).trans ((b3.trans (hw4.mono (by simp))).mono (Nat.le_of_lt k0)))
    clear e3 b3 hw3 hw4
    generalize strN n d = t at q1 q2 ⊢
    go_wp2
    refine bodyPost_ret (v := ratV _) (by simp [results, Tryd.results36, go_sem, hc4, hc, k0, k1]; rfl) rfl ⟨rfl, ?_⟩
    exact (HB.out.setCell (by simp) _).setCell (by simp) _
end Go.Proofs.YtcngbipgnpjohaaDoor
