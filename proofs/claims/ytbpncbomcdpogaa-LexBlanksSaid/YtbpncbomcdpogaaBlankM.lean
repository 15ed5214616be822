/- Blanks and comments put before the tokens change only offsets: plain mathematics. -/
import Derived.Test.YtbpncbomcdpogaaBackM
namespace Go.Proofs.Ytbpncbomcdpogaa

/-- Blanks and whole comments. -/
structure Gap (g : List (BitVec 8)) : Prop where
  scan : ∀ (p : Nat) (v : List (BitVec 8)), scan p (g ++ v) = scan (p + g.length) v
  head : ∀ v c t, g ++ v = c :: t → isIn c = false
  len : g.length ≤ 8
theorem gap_of {g : List (BitVec 8)} (h : ∀ v, skp false (g ++ v) = g.length + skp false v) (h2 : ∃ c t, g = c :: t ∧ isIn c = false) (h3 : g.length ≤ 8) : Gap g where
  scan p v := by
    rw [scan_skip p (g ++ v), h, scan_skip (p + g.length) v, ← List.drop_drop, List.drop_left, Nat.add_assoc]
  head v c t e := by
    obtain ⟨d, r, rfl, hd⟩ := h2
    cases e; exact hd
  len := h3
theorem skp_com {c : BitVec 8} {t : List (BitVec 8)} (h : notNl c = true) : skp true (c :: t) = skp true t + 1 := by rw [skp, h]
theorem skp_end {t : List (BitVec 8)} : skp true (10#8 :: t) = skp false t + 1 := by rw [skp]; rfl
theorem gap0 : Gap [32#8] := gap_of (fun v => by show skp false (32#8 :: v) = _; rw [skp_blank (by decide)]; simp; omega) ⟨_, _, rfl, by decide⟩ (by decide)
theorem gap1 : Gap [10#8] := gap_of (fun v => by show skp false (10#8 :: v) = _; rw [skp_blank (by decide)]; simp; omega) ⟨_, _, rfl, by decide⟩ (by decide)
theorem gap2 : Gap [9#8, 32#8] := gap_of (fun v => by show skp false (9#8 :: 32#8 :: v) = _; rw [skp_blank (by decide), skp_blank (by decide)]; simp; omega) ⟨_, _, rfl, by decide⟩ (by decide)
theorem gap3 : Gap [35#8, 10#8] := gap_of (fun v => by show skp false (35#8 :: 10#8 :: v) = _; rw [skp_hash', skp_end]; simp; omega) ⟨_, _, rfl, by decide⟩ (by decide)
theorem gap4 : Gap [32#8, 35#8, 32#8, 123#8, 97#8, 32#8, 63#8, 10#8] := gap_of (fun v => by
  show skp false (32#8 :: 35#8 :: 32#8 :: 123#8 :: 97#8 :: 32#8 :: 63#8 :: 10#8 :: v) = _
  rw [skp_blank (by decide), skp_hash', skp_com (by decide), skp_com (by decide), skp_com (by decide), skp_com (by decide), skp_com (by decide), skp_end]; simp; omega) ⟨_, _, rfl, by decide⟩ (by decide)
theorem gap5 : Gap [13#8, 10#8] := gap_of (fun v => by show skp false (13#8 :: 10#8 :: v) = _; rw [skp_blank (by decide), skp_blank (by decide)]; simp; omega) ⟨_, _, rfl, by decide⟩ (by decide)
def fills : List (List (BitVec 8)) := [[32#8], [10#8], [9#8, 32#8], [35#8, 10#8], [32#8, 35#8, 32#8, 123#8, 97#8, 32#8, 63#8, 10#8], [13#8, 10#8]]
theorem fills_gap : ∀ g ∈ fills, Gap g := by
  intro g h
  simp only [fills, List.mem_cons, List.not_mem_nil, or_false] at h
  rcases h with rfl | rfl | rfl | rfl | rfl | rfl
  · exact gap0
  · exact gap1
  · exact gap2
  · exact gap3
  · exact gap4
  · exact gap5

/-- What is written: each token behind a gap. -/
def srcZ (Z : List (List (BitVec 8) × Tk)) : List (BitVec 8) := Z.flatMap fun z => z.1 ++ z.2.s
/-- The offsets at which the tokens are written. -/
def offZ : Nat → List (List (BitVec 8) × Tk) → List Nat
  | _, [] => []
  | p, z :: Z => (p + z.1.length) :: offZ (p + z.1.length + z.2.s.length) Z
theorem srcZ_snoc (Z : List (List (BitVec 8) × Tk)) (g : List (BitVec 8)) (x : Tk) : srcZ (Z ++ [(g, x)]) = srcZ Z ++ g ++ x.s := by simp [srcZ]
theorem offZ_snoc (g : List (BitVec 8)) (x : Tk) : ∀ (Z : List (List (BitVec 8) × Tk)) (p : Nat), offZ p (Z ++ [(g, x)]) = offZ p Z ++ [p + (srcZ Z ++ g).length]
  | [], p => by simp [offZ, srcZ]
  | z :: Z, p => by
    rw [List.cons_append, offZ, offZ, offZ_snoc g x Z, List.cons_append]
    congr 3
    simp [srcZ]; omega
theorem offZ_len : ∀ (Z : List (List (BitVec 8) × Tk)) (p : Nat), (offZ p Z).length = Z.length
  | [], _ => rfl
  | z :: Z, p => by rw [offZ, List.length_cons, offZ_len Z, List.length_cons]
def endB : List (BitVec 8) := [32#8, 35#8, 32#8, 116#8, 104#8, 101#8, 32#8, 101#8, 110#8, 100#8]
theorem srcZ_head : ∀ (Z : List (List (BitVec 8) × Tk)), (∀ z ∈ Z, Gap z.1) → ∀ c t, srcZ Z ++ endB = c :: t → isIn c = false
  | [], _, c, t, h => by
    have : c = 32#8 := (List.cons.inj h).1.symm
    subst this; decide
  | z :: Z, hz, c, t, h => by
    have e : srcZ (z :: Z) ++ endB = z.1 ++ (z.2.s ++ (srcZ Z ++ endB)) := by simp [srcZ]
    rw [e] at h
    exact (hz z (List.mem_cons_self ..)).head _ _ _ h
def putZ (Z : List (List (BitVec 8) × Tk)) (O : List Nat) : List Tk := List.zipWith (fun z o => ⟨z.2.k, z.2.s, o⟩) Z O
theorem scan_srcZ : ∀ (Z : List (List (BitVec 8) × Tk)) (p : Nat), (∀ z ∈ Z, Gap z.1 ∧ Wf z.2 ∧ z.2.k ≠ 0) → scan p (srcZ Z ++ endB) = putZ Z (offZ p Z)
  | [], p, _ => by
    show scan p endB = []
    exact scan_end (by decide)
  | z :: Z, p, h => by
    obtain ⟨h1, h2, h3⟩ := h z (List.mem_cons_self ..)
    have e : srcZ (z :: Z) ++ endB = z.1 ++ (z.2.s ++ (srcZ Z ++ endB)) := by simp [srcZ]
    rw [e, h1.scan, scan_word h2 h3 _ _ (srcZ_head Z fun y hy => (h y (List.mem_cons_of_mem _ hy)).1), scan_srcZ Z _ fun y hy => h y (List.mem_cons_of_mem _ hy)]
    rfl
theorem putZ_ks : ∀ (Z : List (List (BitVec 8) × Tk)) (p : Nat), (putZ Z (offZ p Z)).map ksT = (Z.map Prod.snd).map ksT
  | [], _ => rfl
  | z :: Z, p => by
    have := putZ_ks Z (p + z.1.length + z.2.s.length)
    unfold putZ at this ⊢
    rw [offZ, List.zipWith_cons_cons, List.map_cons, List.map_cons, List.map_cons, this]
    rfl
theorem putZ_off : ∀ (Z : List (List (BitVec 8) × Tk)) (p : Nat), (putZ Z (offZ p Z)).map (·.o) = offZ p Z
  | [], _ => rfl
  | z :: Z, p => by
    have := putZ_off Z (p + z.1.length + z.2.s.length)
    unfold putZ at this ⊢
    rw [offZ, List.zipWith_cons_cons, List.map_cons, this]
theorem srcZ_len : ∀ (Z : List (List (BitVec 8) × Tk)), (∀ z ∈ Z, Gap z.1) → (srcZ Z).length ≤ 8 * Z.length + (flatS (Z.map Prod.snd)).length
  | [], _ => by simp [srcZ, flatS]
  | z :: Z, h => by
    have h1 := (h z (List.mem_cons_self ..)).len
    have h2 := srcZ_len Z fun y hy => h y (List.mem_cons_of_mem _ hy)
    have e1 : (srcZ (z :: Z)).length = z.1.length + z.2.s.length + (srcZ Z).length := by simp [srcZ]; omega
    have e2 : (flatS ((z :: Z).map Prod.snd)).length = 1 + z.2.s.length + (flatS (Z.map Prod.snd)).length := by simp [flatS]; omega
    rw [e1, e2, List.length_cons]; omega
theorem flatS_take (L : List Tk) (k : Nat) : (flatS (L.take k)).length ≤ (flatS L).length := by
  have : flatS L = flatS (L.take k) ++ flatS (L.drop k) := by unfold flatS; rw [← List.flatMap_append, List.take_append_drop]
  rw [this, List.length_append]; omega
/-- What the second call of LexBlanks answers. -/
theorem lex_blanks {l : List (BitVec 8)} (h : l.length ≤ 4000) (hn : (scan 0 l).length ≤ 300) (hf : (scan 0 l).find? bad = none) (Z : List (List (BitVec 8) × Tk)) (hZ : Z.map Prod.snd = scan 0 l) (hG : ∀ z ∈ Z, Gap z.1) :
    lexE (srcZ Z ++ endB) = 0 ∧ (lexT (srcZ Z ++ endB)).map ksT = (scan 0 l).map ksT ∧ (lexT (srcZ Z ++ endB)).map (·.o) = offZ 0 Z := by
  have hw : ∀ z ∈ Z, Gap z.1 ∧ Wf z.2 ∧ z.2.k ≠ 0 := fun z hz => by
    have hx : z.2 ∈ scan 0 l := by rw [← hZ]; exact List.mem_map_of_mem hz
    exact ⟨hG z hz, scan_wf l.length 0 l (Nat.le_refl _) _ hx, good_k (by have := List.find?_eq_none.1 hf _ hx; simpa using this)⟩
  have hs := scan_srcZ Z 0 hw
  have hk := putZ_ks Z 0
  rw [hZ] at hk
  have hZl : Z.length = (scan 0 l).length := by rw [← hZ]; simp
  have hlen : (srcZ Z ++ endB).length ≤ 65536 := by
    have h1 := srcZ_len Z hG
    rw [hZ] at h1
    have h2 := flat_len l.length 0 l (Nat.le_refl _)
    rw [List.length_append]
    simp [endB]; omega
  obtain ⟨h1, h2, h3⟩ := lexT_ok hlen (find_ks (by rw [hs]; exact hk) hf)
  exact ⟨h3, by rw [h1, hs]; exact hk, by rw [h1, hs]; exact putZ_off Z 0⟩
end Go.Proofs.Ytbpncbomcdpogaa
