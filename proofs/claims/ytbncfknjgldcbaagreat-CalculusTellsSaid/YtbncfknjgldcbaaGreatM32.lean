/- Merged texts: TMx. -/
import Derived.Test.YtbncfknjgldcbaaGreatM27
import Derived.Test.YtbncfknjgldcbaaGreatM30
import Derived.Test.YtbncfknjgldcbaaGreatM31
import Derived.Test.YtbncfknjgldcbaaGreatM16
/- The greatest values of the reference: the mathematics. -/
namespace Go.Proofs.YtbncfknjgldcbaaGreat
open Go.RowKit Go.Joins Go.Shelf Go.Sort Num

theorem foldmx {α : Type} (g : α → Rat) : ∀ (l : List α) (m : Rat), (m ≤ l.foldl (fun m x => if m < g x then g x else m) m ∧ ∀ x ∈ l, g x ≤ l.foldl (fun m x => if m < g x then g x else m) m) ∧ (l.foldl (fun m x => if m < g x then g x else m) m = m ∨ ∃ x ∈ l, l.foldl (fun m x => if m < g x then g x else m) m = g x)
  | [], m => ⟨⟨Rat.le_refl, by simp⟩, .inl rfl⟩
  | y :: l, m => by
    rw [List.foldl_cons]
    obtain ⟨⟨h1, h2⟩, h3⟩ := foldmx g l (if m < g y then g y else m)
    have hm : m ≤ (if m < g y then g y else m) := by
      split
      · rename_i h; exact Rat.le_of_lt h
      · exact Rat.le_refl
    have hy : g y ≤ (if m < g y then g y else m) := by
      split
      · exact Rat.le_refl
      · rename_i h; exact Rat.not_lt.1 h
    refine ⟨⟨Rat.le_trans hm h1, fun x hx => ?_⟩, ?_⟩
    · rcases List.mem_cons.1 hx with rfl | hx
      · exact Rat.le_trans hy h1
      · exact h2 x hx
    · rcases h3 with h3 | ⟨x, hx, h3⟩
      · split at h3
        · rename_i h
          rw [if_pos h]
          exact .inr ⟨y, List.mem_cons_self, h3⟩
        · rename_i h
          rw [if_neg h]
          exact .inl h3
      · exact .inr ⟨x, List.mem_cons_of_mem _ hx, h3⟩
/-- The greatest of the values of two lists is the same if the values are. -/
theorem foldmx_eq {α β : Type} {g : α → Rat} {h : β → Rat} {l : List α} {k : List β} (m : Rat) (h1 : ∀ x ∈ l, ∃ y ∈ k, g x = h y) (h2 : ∀ y ∈ k, ∃ x ∈ l, h y = g x) :
    l.foldl (fun m x => if m < g x then g x else m) m = k.foldl (fun m x => if m < h x then h x else m) m := by
  obtain ⟨⟨a1, a2⟩, a3⟩ := foldmx g l m
  obtain ⟨⟨b1, b2⟩, b3⟩ := foldmx h k m
  refine Rat.le_antisymm ?_ ?_
  · rcases a3 with e | ⟨x, hx, e⟩
    · rw [e]; exact b1
    · obtain ⟨y, hy, e2⟩ := h1 x hx
      rw [e, e2]; exact b2 y hy
  · rcases b3 with e | ⟨y, hy, e⟩
    · rw [e]; exact a1
    · obtain ⟨x, hx, e2⟩ := h2 y hy
      rw [e, e2]; exact a2 x hx

def mxP (f : Pt → Option Rat) (l : List Pt) : Rat := l.foldl (fun m p => if m < (f p).getD 0 then (f p).getD 0 else m) 0
def greatP (f : Pt → Option Rat) (l : List Pt) : Option Rat := if ∀ p ∈ l, (f p).isSome = true then some (mxP f l) else none
theorem mxP_snoc (f : Pt → Option Rat) (l : List Pt) (p : Pt) : mxP f (l ++ [p]) = if mxP f l < (f p).getD 0 then (f p).getD 0 else mxP f l := by unfold mxP; rw [List.foldl_append]; rfl
theorem mxP_fit {f : Pt → Option Rat} (hf : ∀ p, fitO (f p)) (l : List Pt) : Fit (mxP f l) := by
  rcases (foldmx (fun p => (f p).getD 0) l 0).2 with e | ⟨p, _, e⟩
  · unfold mxP; rw [e]; exact ⟨by decide, by decide⟩
  · unfold mxP; rw [e]
    cases h : f p with
    | none => exact ⟨by decide, by decide⟩
    | some v => exact hf p v h
/-- Whole points: the reference's points and the program's ticks. -/
theorem greatP_z (F : Rat → Option Rat) (l : List Pt) (ts : List Pt) (hn : ∀ p ∈ ts, 0 ≤ p.q) (hl : ∀ p, p ∈ l ↔ p = ptZ 0 ∨ ∃ t ∈ ts, p = ptZ (flP t) ∨ p = ptZ (ceP t)) : greatP (fun p => F p.q) l = greatZ (fun z => F z) (ticksL ts) := by
  have key : ∀ z, z ∈ ticksL ts → ∃ p ∈ l, p.q = (z : Rat) := fun z hz => by
    rcases (ticks_mem ts z).1 hz with rfl | ⟨t, ht, e⟩
    · exact ⟨ptZ 0, (hl _).2 (.inl rfl), ptZ_q (by decide)⟩
    · obtain ⟨⟨f1, f2⟩, f3, f4⟩ := tick_bd (hn t ht)
      rcases e with rfl | rfl
      · exact ⟨ptZ (flP t), (hl _).2 (.inr ⟨t, ht, .inl rfl⟩), ptZ_q (by omega)⟩
      · exact ⟨ptZ (ceP t), (hl _).2 (.inr ⟨t, ht, .inr rfl⟩), ptZ_q (by omega)⟩
  have key2 : ∀ p ∈ l, ∃ z ∈ ticksL ts, p.q = (z : Rat) := fun p hp => by
    rcases (hl p).1 hp with rfl | ⟨t, ht, e⟩
    · exact ⟨0, (ticks_mem ts 0).2 (.inl rfl), ptZ_q (by decide)⟩
    · obtain ⟨⟨f1, f2⟩, f3, f4⟩ := tick_bd (hn t ht)
      rcases e with rfl | rfl
      · exact ⟨flP t, (ticks_mem ts _).2 (.inr ⟨t, ht, .inl rfl⟩), ptZ_q (by omega)⟩
      · exact ⟨ceP t, (ticks_mem ts _).2 (.inr ⟨t, ht, .inr rfl⟩), ptZ_q (by omega)⟩
  have hall : (∀ p ∈ l, (F p.q).isSome = true) ↔ ∀ z ∈ ticksL ts, (F (z : Rat)).isSome = true := by
    constructor
    · intro h z hz
      obtain ⟨p, hp, e⟩ := key z hz
      rw [← e]; exact h p hp
    · intro h p hp
      obtain ⟨z, hz, e⟩ := key2 p hp
      rw [e]; exact h z hz
  unfold greatP greatZ
  by_cases h : ∀ p ∈ l, (F p.q).isSome = true
  · rw [if_pos h, if_pos (hall.1 h)]
    unfold mxP
    rw [foldmx_eq (g := fun p : Pt => (F p.q).getD 0) (h := fun z : Int => (F (z : Rat)).getD 0) 0 (fun p hp => by
      obtain ⟨z, hz, e⟩ := key2 p hp
      exact ⟨z, hz, by show (F p.q).getD 0 = _; rw [e]⟩) (fun z hz => by
      obtain ⟨p, hp, e⟩ := key z hz
      exact ⟨p, hp, by show _ = (F p.q).getD 0; rw [e]⟩)]
  · rw [if_neg h, if_neg fun k => h (hall.2 k)]
theorem arP_mem {ts : List Pt} {p : Pt} : p ∈ arP ts ↔ ∃ t ∈ ts, p = ptZ (flP t) ∨ p = ptZ (ceP t) := by
  unfold arP
  rw [List.mem_flatMap]
  simp
theorem chP_mem (cs : List (List Buck)) (p : Pt) : p ∈ chP cs ↔ p = ptZ 0 ∨ ∃ t ∈ ptsL cs, p = ptZ (flP t) ∨ p = ptZ (ceP t) := by
  unfold chP
  rw [List.mem_cons, arP_mem]
theorem val_nn {x : Buck} {t : Rat} (ht : 0 ≤ t) : 0 ≤ valQ x t := by
  unfold valQ
  exact Rat.add_nonneg x.pb (Rat.mul_nonneg x.pr ht)
theorem minV_nn {c : List Buck} (hc : c ≠ []) {t : Rat} (ht : 0 ≤ t) : 0 ≤ minV c t := by
  cases c with
  | nil => exact absurd rfl hc
  | cons y l =>
    unfold minV
    have : ∀ (l : List Buck) (m : Rat), 0 ≤ m → 0 ≤ l.foldl (minStep t) m := by
      intro l
      induction l with
      | nil => intro m hm; exact hm
      | cons z l ih =>
        intro m hm
        rw [List.foldl_cons]
        refine ih _ ?_
        unfold minStep
        split
        · exact val_nn ht
        · exact hm
    exact this l _ (val_nn ht)
theorem sumO_nn : ∀ (l : List (Option Rat)) (m : Rat), 0 ≤ m → (∀ o ∈ l, ∀ v, o = some v → 0 ≤ v) → ∀ T, l.foldl addO (some m) = some T → 0 ≤ T
  | [], m, hm, _, T, h => by cases h; exact hm
  | o :: l, m, hm, ho, T, h => by
    rw [List.foldl_cons] at h
    cases o with
    | none =>
      have : ∀ l : List (Option Rat), l.foldl addO none = none := fun l => by
        induction l with
        | nil => rfl
        | cons a l ih => rw [List.foldl_cons, addO_none, ih]
      rw [show addO (some m) none = none from rfl, this] at h
      cases h
    | some v =>
      rw [addO_some] at h
      split at h
      · exact sumO_nn l _ (Rat.add_nonneg hm (ho _ List.mem_cons_self v rfl)) (fun o h2 => ho o (List.mem_cons_of_mem _ h2)) T h
      · have : ∀ l : List (Option Rat), l.foldl addO none = none := fun l => by
          induction l with
          | nil => rfl
          | cons a l ih => rw [List.foldl_cons, addO_none, ih]
        rw [this] at h
        cases h
theorem totO_nn {cs : List (List Buck)} (hok : ∀ c ∈ cs, c ≠ []) {t : Rat} (ht : 0 ≤ t) {T : Rat} (h : totO cs t = some T) : 0 ≤ T := by
  refine sumO_nn _ 0 Rat.le_refl ?_ T h
  intro o ho v hv
  obtain ⟨c, hc, rfl⟩ := List.mem_map.1 ho
  unfold atO at hv
  split at hv
  · cases hv; exact minV_nn (hok c hc) ht
  · cases hv
theorem delay0_nn {cs : List (List Buck)} (hok : ∀ c ∈ cs, c ≠ []) {r L : Rat} (hr : 0 < r) (hL : 0 ≤ L) : ∀ v, delayO cs r L 0 = some v → 0 ≤ v := by
  intro v h
  unfold delayO at h
  cases hT : totO cs 0 with
  | none => rw [hT] at h; cases h
  | some T =>
    have hT0 := totO_nn hok Rat.le_refl hT
    rw [hT] at h
    unfold opO at h
    simp only at h
    split at h
    · rename_i h1
      split at h1
      · rename_i h2
        split at h2
        · cases h2
          split at h1
          · cases h1
            split at h
            · cases h
              have : 0 ≤ T / r := by
                rw [Rat.div_def]
                exact Rat.mul_nonneg hT0 (Rat.le_of_lt (Rat.inv_pos.2 hr))
              grind
            · cases h
          · cases h1
        · cases h2
      · cases h1
    · cases h
theorem back0_nn {cs : List (List Buck)} (hok : ∀ c ∈ cs, c ≠ []) {r L : Rat} (hL : 0 ≤ L) : ∀ v, backO cs r L 0 = some v → 0 ≤ v := by
  intro v h
  unfold backO at h
  cases hT : totO cs 0 with
  | none => rw [hT] at h; cases h
  | some T =>
    rw [hT] at h
    simp only [if_pos hL] at h
    cases h
    exact totO_nn hok Rat.le_refl hT
/-- Two stores elsewhere leave the points. -/
theorem isP_far2 {W : World} {g B : Nat} {c : List Pt} (h : isP (some ⟨g, 0, none⟩) c W) (hne : g ≠ B) (a b : Value) : isP (some ⟨g, 0, none⟩) c ((W.setCell ⟨B, 0, none⟩ a).setCell ⟨B, 1, none⟩ b) := fun hc => by
  obtain ⟨g', e, hl, hr⟩ := h hc
  simp only [Option.some.injEq, Addr.mk.injEq, and_true] at e
  subst e
  have key : ∀ o, ((W.setCell ⟨B, 0, none⟩ a).setCell ⟨B, 1, none⟩ b).cell? ⟨g, o, none⟩ = W.cell? ⟨g, o, none⟩ := fun o =>
    World.cell?_of_block (by rw [Below.heap_setCell _ _ _ _ (by simpa using hne), Below.heap_setCell _ _ _ _ (by simpa using hne)])
  exact ⟨g, rfl, by simpa using hl, fun j x hx => ⟨(key _).trans (hr j x hx).1, (key _).trans (hr j x hx).2⟩⟩
end Go.Proofs.YtbncfknjgldcbaaGreat
