/- Merged texts: CDelM, CMerge, CMergeF. -/
import Derived.Test.YtbncfknjgldcbaaGreatM19
import Derived.Test.YtbncfknjgldcbaaGreatM17
import Derived.Test.YtbncfknjgldcbaaGreatM20
/- Two flows with gaps on one link: every frame is transmitted in time, and what waits is bounded. -/
namespace Go.Proofs.YtbncfknjgldcbaaGreat.Mx
open Go.RowKit Go.Shelf Go.Sort Num

/-- The bytes of frames. -/
def sumS (l : List Sn) : Int := (l.map Sn.s).sum
theorem sumS_app (a b : List Sn) : sumS (a ++ b) = sumS a + sumS b := by unfold sumS; rw [List.map_append, List.sum_append]
theorem sumS_one (f : Sn) : sumS [f] = f.s := by simp [sumS]
theorem sumS_nn {l : List Sn} (h : ∀ x ∈ l, 1 ≤ x.s) : 0 ≤ sumS l := by
  induction l with
  | nil => exact Int.le_refl _
  | cons a l ih =>
    have := ih fun x hx => h x (List.mem_cons_of_mem _ hx)
    have := h a (by simp)
    show 0 ≤ a.s + sumS l
    omega
/-- The bytes of one flow within an interval. -/
theorem flow_bytes {gap hi : Int} (hg : 0 < gap) : ∀ (l : List Sn) (lo : Int), l.Pairwise (fun x y => x.t + gap ≤ y.t) → (∀ x ∈ l, lo ≤ x.t ∧ x.t ≤ hi) → (∀ x ∈ l, x.s ≤ 72) → lo ≤ hi + gap → sumS l * gap ≤ 72 * (gap + (hi - lo))
  | [], lo, _, _, _, h => by show 0 * gap ≤ _; omega
  | x :: l, lo, hp, ht, hs, h => by
    rw [List.pairwise_cons] at hp
    have h1 := ht x (by simp)
    have ih := flow_bytes hg l (x.t + gap) hp.2 (fun y hy => ⟨hp.1 y hy, (ht y (List.mem_cons_of_mem _ hy)).2⟩) (fun y hy => hs y (List.mem_cons_of_mem _ hy)) (by omega)
    have h2 := hs x (by simp)
    have h3 := Int.mul_le_mul_of_nonneg_right h2 (Int.le_of_lt hg)
    show (x.s + sumS l) * gap ≤ _
    rw [Int.add_mul]
    omega
theorem sumS_split (p : Sn → Bool) (l : List Sn) : sumS l = sumS (l.filter p) + sumS (l.filter fun x => !p x) := by
  induction l with
  | nil => rfl
  | cons a l ih =>
    have e : sumS (a :: l) = a.s + sumS l := rfl
    rw [e, ih]
    by_cases h : p a = true
    · rw [List.filter_cons_of_pos h, List.filter_cons_of_neg (by simp [h])]
      show a.s + _ = a.s + sumS (l.filter p) + _
      omega
    · rw [List.filter_cons_of_neg h, List.filter_cons_of_pos (by simp [h])]
      show a.s + _ = sumS (l.filter p) + (a.s + sumS (l.filter fun x => !p x))
      omega
/-- Two flows, merged: each keeps its gap. -/
structure Two (gap hap : Int) (l : List Sn) : Prop where
  a : (l.filter fun x => decide (x.v = 0)).Pairwise (fun x y => x.t + gap ≤ y.t)
  b : (l.filter fun x => !decide (x.v = 0)).Pairwise (fun x y => x.t + hap ≤ y.t)
  s : ∀ x ∈ l, 1 ≤ x.s ∧ x.s ≤ 72
  o : l.Pairwise (fun x y => x.t ≤ y.t)
  n : ∀ x ∈ l, 0 ≤ x.t
theorem Two.sub {gap hap : Int} {l m : List Sn} (h : Two gap hap l) (hs : m.Sublist l) : Two gap hap m :=
  ⟨h.a.sublist (hs.filter _), h.b.sublist (hs.filter _), fun x hx => h.s x (hs.subset hx), h.o.sublist hs, fun x hx => h.n x (hs.subset hx)⟩
theorem Two.bytes {gap hap : Int} (hg : 0 < gap) (hh : 0 < hap) {l : List Sn} (h : Two gap hap l) {lo hi : Int} (hl : lo ≤ hi) (ht : ∀ x ∈ l, lo ≤ x.t ∧ x.t ≤ hi) : sumS l * (gap * hap) ≤ 144 * (gap * hap) + (hi - lo) * (72 * (gap + hap)) := by
  have h1 := flow_bytes hg (l.filter fun x => decide (x.v = 0)) lo h.a (fun x hx => ht x (List.mem_filter.1 hx).1) (fun x hx => (h.s x (List.mem_filter.1 hx).1).2) (by omega)
  have h2 := flow_bytes hh (l.filter fun x => !decide (x.v = 0)) lo h.b (fun x hx => ht x (List.mem_filter.1 hx).1) (fun x hx => (h.s x (List.mem_filter.1 hx).1).2) (by omega)
  rw [sumS_split (fun x => decide (x.v = 0)) l]
  generalize sumS (l.filter fun x => decide (x.v = 0)) = a at *
  generalize sumS (l.filter fun x => !decide (x.v = 0)) = b at *
  have k1 := Int.mul_le_mul_of_nonneg_right h1 (Int.le_of_lt hh)
  have k2 := Int.mul_le_mul_of_nonneg_right h2 (Int.le_of_lt hg)
  have e1 : (a + b) * (gap * hap) = a * gap * hap + b * hap * gap := by grind
  have e2 : 144 * (gap * hap) + (hi - lo) * (72 * (gap + hap)) = 72 * (gap + (hi - lo)) * hap + 72 * (hap + (hi - lo)) * gap := by grind
  omega
/-- Frame x is served in one stretch from some frame j on. -/
theorem busy {k d : Int} (hd : 0 ≤ d) {l : List Sn} (hn : ∀ x ∈ l, 0 ≤ x.t) : ∀ (x : Nat), x < l.length → ∃ j f, j ≤ x ∧ l[j]? = some f ∧ endL k d 0 (l.take (x + 1)) = f.t + d + k * sumS ((l.take (x + 1)).drop j)
  | x, hx => by
    have hf : l[x]? = some l[x] := List.getElem?_eq_getElem hx
    have hnf := hn l[x] (List.getElem_mem hx)
    rw [take_succ' hf, endL_snoc]
    have hlen : (l.take x).length = x := by rw [List.length_take]; omega
    by_cases hle : endL k d 0 (l.take x) ≤ l[x].t + d
    · refine ⟨x, l[x], Nat.le_refl _, hf, ?_⟩
      have e : (l.take x ++ [l[x]]).drop x = [l[x]] := by
        have := List.drop_left (l₁ := l.take x) (l₂ := [l[x]])
        rwa [hlen] at this
      rw [e, sumS_one, Int.mul_comm k]
      omega
    · cases x with
      | zero => exact absurd (show endL k d 0 (l.take 0) ≤ _ by simp only [List.take_zero, endL]; omega) hle
      | succ y =>
        obtain ⟨j, f, hj, hjf, he⟩ := busy hd hn y (by omega)
        refine ⟨j, f, by omega, hjf, ?_⟩
        rw [List.drop_append_of_le_length (by omega), sumS_app, sumS_one, Int.mul_add, ← Int.add_assoc, ← he, Int.mul_comm k l[y + 1].s]
        omega
theorem seg_times {l : List Sn} (ho : l.Pairwise (fun x y => x.t ≤ y.t)) {j x : Nat} {f g : Sn} (hjx : j ≤ x) (hf : l[j]? = some f) (hg : l[x]? = some g) : f.t ≤ g.t ∧ ∀ y ∈ (l.take (x + 1)).drop j, f.t ≤ y.t ∧ y.t ≤ g.t := by
  have mono : ∀ (a b : Nat) (u v : Sn), a ≤ b → l[a]? = some u → l[b]? = some v → u.t ≤ v.t := fun a b u v hab hu hv => by
    obtain ⟨h1, rfl⟩ := List.getElem?_eq_some_iff.1 hu
    obtain ⟨h2, rfl⟩ := List.getElem?_eq_some_iff.1 hv
    by_cases e : a = b
    · subst e; exact Int.le_refl _
    · exact List.pairwise_iff_getElem.1 ho a b h1 h2 (by omega)
  refine ⟨mono j x f g hjx hf hg, fun y hy => ?_⟩
  obtain ⟨i, hi⟩ := List.mem_iff_getElem?.1 hy
  rw [List.getElem?_drop, List.getElem?_take] at hi
  split at hi
  · exact ⟨mono _ _ _ _ (by omega) hf hi, mono _ _ _ _ (by omega) hi hg⟩
  · cases hi
section
variable {gap hap k d : Int} (hg : 0 < gap) (hh : 0 < hap) (hk : 1 ≤ k) (hd : 0 ≤ d) (hc : k * (72 * (gap + hap)) ≤ gap * hap) {l : List Sn} (h : Two gap hap l)
include hg hh hk hd hc h
/-- Every frame is transmitted within the bound. -/
theorem in_time {x : Nat} {g : Sn} (hx : l[x]? = some g) : endL k d 0 (l.take (x + 1)) - g.t ≤ 144 * k + d := by
  have hxl := (List.getElem?_eq_some_iff.1 hx).1
  obtain ⟨j, f, hj, hf, he⟩ := busy (k := k) hd h.n x hxl
  obtain ⟨h1, h2⟩ := seg_times h.o hj hf hx
  have h3 := (h.sub ((List.drop_sublist _ _).trans (List.take_sublist _ _))).bytes hg hh h1 h2
  rw [he]
  generalize sumS ((l.take (x + 1)).drop j) = Q at *
  have hG : 0 < gap * hap := Int.mul_pos hg hh
  generalize gap * hap = G at *
  generalize 72 * (gap + hap) = S at *
  have h4 := Int.mul_le_mul_of_nonneg_left h3 (show 0 ≤ k by omega)
  have h5 := Int.mul_le_mul_of_nonneg_left hc (show 0 ≤ g.t - f.t by omega)
  have h6 : (k * Q) * G ≤ (144 * k + (g.t - f.t)) * G := by grind
  have h7 := Int.le_of_mul_le_mul_right h6 hG
  omega
/-- What waits is within the bound. -/
theorem in_store {x z : Nat} {g f : Sn} (hx : l[x]? = some g) (hzx : z ≤ x) (hz : l[z]? = some f) (hend : g.t < endL k d 0 (l.take (z + 1))) : sumS ((l.take (x + 1)).drop z) * (gap * hap) ≤ 216 * (gap * hap) + d * (72 * (gap + hap)) := by
  have hxl := (List.getElem?_eq_some_iff.1 hx).1
  have hzl := (List.getElem?_eq_some_iff.1 hz).1
  obtain ⟨j, u, hj, hu, he⟩ := busy (k := k) hd h.n z hzl
  obtain ⟨h1, h2⟩ := seg_times h.o (Nat.le_trans hj hzx) hu hx
  have h3 := (h.sub ((List.drop_sublist j _).trans (List.take_sublist (x + 1) _))).bytes hg hh h1 h2
  have hlen : (l.take z).length = z := by rw [List.length_take]; omega
  have e1 : (l.take (z + 1)).drop j = (l.take z).drop j ++ [f] := by rw [take_succ' hz, List.drop_append_of_le_length (by omega)]
  have e2 : (l.take (x + 1)).drop j = (l.take z).drop j ++ (l.take (x + 1)).drop z := by
    have : l.take (x + 1) = l.take z ++ (l.take (x + 1)).drop z := by
      have := (List.take_append_drop z (l.take (x + 1))).symm
      rwa [List.take_take, show min z (x + 1) = z by omega] at this
    conv => lhs; rw [this]
    rw [List.drop_append_of_le_length (by omega)]
  rw [e1, sumS_app, sumS_one] at he
  rw [e2, sumS_app] at h3
  rw [he] at hend
  have hA : 0 ≤ sumS ((l.take z).drop j) := sumS_nn fun y hy => (h.s y ((List.drop_sublist _ _).trans (List.take_sublist _ _) |>.subset hy)).1
  have hs := (h.s f (List.mem_of_getElem? hz)).2
  generalize sumS ((l.take z).drop j) = A at *
  generalize sumS ((l.take (x + 1)).drop z) = Q at *
  have hG : 0 < gap * hap := Int.mul_pos hg hh
  have hS : 0 ≤ 72 * (gap + hap) := by omega
  generalize gap * hap = G at *
  generalize 72 * (gap + hap) = S at *
  obtain ⟨T, hT⟩ : ∃ T, g.t - u.t = T := ⟨_, rfl⟩
  rw [hT] at h3
  by_cases hle : T ≤ d
  · have k1 := Int.mul_le_mul_of_nonneg_right hle hS
    have k2 := Int.mul_nonneg hA (Int.le_of_lt hG)
    rw [Int.add_mul] at h3
    omega
  · obtain ⟨D, hD⟩ : ∃ D, T - d = D := ⟨_, rfl⟩
    have hD0 : 0 ≤ D := by omega
    obtain rfl : T = D + d := by omega
    have k0 : f.s * k ≤ 72 * k := Int.mul_le_mul_of_nonneg_right hs (by omega)
    have k1 : D - 72 * k ≤ k * A := by have : k * (A + f.s) = k * A + f.s * k := by grind
                                       omega
    have k2 := Int.mul_le_mul_of_nonneg_right k1 (Int.le_of_lt hG)
    have k3 := Int.mul_le_mul_of_nonneg_left h3 (show 0 ≤ k by omega)
    have k4 := Int.mul_le_mul_of_nonneg_left hc hD0
    have k5 : (Q * G) * k ≤ (216 * G + d * S) * k := by grind
    exact Int.le_of_mul_le_mul_right k5 (by omega)
end
/-- The bytes that are held at T, after z frames. -/
def heldL (k d T : Int) (l : List Sn) : Nat → Int
  | 0 => 0
  | z + 1 => heldL k d T l z + if T < endL k d 0 (l.take (z + 1)) then (l[z]?.map Sn.s).getD 0 else 0
theorem held_le {k d T : Int} {l : List Sn} (hs : ∀ x ∈ l, 1 ≤ x.s) : ∀ (z : Nat), z ≤ l.length → heldL k d T l z = 0 ∨ ∃ y f, y < z ∧ l[y]? = some f ∧ T < endL k d 0 (l.take (y + 1)) ∧ heldL k d T l z ≤ sumS ((l.take z).drop y)
  | 0, _ => .inl rfl
  | z + 1, hz => by
    have hf : l[z]? = some l[z] := List.getElem?_eq_getElem (by omega)
    have hs1 := hs l[z] (List.getElem_mem (by omega))
    have hlen : (l.take z).length = z := by rw [List.length_take]; omega
    unfold heldL
    rw [hf, Option.map_some, Option.getD_some]
    rcases held_le (k := k) (d := d) (T := T) hs z (by omega) with h0 | ⟨y, f, hy, hyf, hend, hle⟩
    · rw [h0]
      split
      · rename_i hT
        refine .inr ⟨z, l[z], by omega, hf, hT, ?_⟩
        have e : (l.take z ++ [l[z]]).drop z = [l[z]] := by
          have := List.drop_left (l₁ := l.take z) (l₂ := [l[z]])
          rwa [hlen] at this
        rw [take_succ' hf, e, sumS_one]
        omega
      · exact .inl rfl
    · refine .inr ⟨y, f, by omega, hyf, hend, ?_⟩
      rw [take_succ' hf, List.drop_append_of_le_length (by omega), sumS_app, sumS_one]
      split <;> omega
end Go.Proofs.YtbncfknjgldcbaaGreat.Mx
/- The frames of two flows, merged by time. -/
namespace Go.Proofs.YtbncfknjgldcbaaGreat.Mx
open Go.RowKit Go.Shelf Go.Sort Num

/-- Two lists of frames, merged by time. -/
def mergeL : List Sn → List Sn → List Sn
  | [], b => b
  | x :: a, [] => x :: a
  | x :: a, y :: b => if x.t ≤ y.t then x :: mergeL a (y :: b) else y :: mergeL (x :: a) b
termination_by a b => a.length + b.length
theorem mergeL_nil (a : List Sn) : mergeL a [] = a := by cases a <;> simp [mergeL]
theorem mergeL_mem : ∀ (a b : List Sn) (z : Sn), z ∈ mergeL a b ↔ z ∈ a ∨ z ∈ b
  | [], b, z => by simp [mergeL]
  | x :: a, [], z => by simp [mergeL]
  | x :: a, y :: b, z => by
    rw [mergeL]
    split
    · rw [List.mem_cons, mergeL_mem a (y :: b) z, List.mem_cons, List.mem_cons]; grind
    · rw [List.mem_cons, mergeL_mem (x :: a) b z, List.mem_cons, List.mem_cons]; grind
termination_by a b => a.length + b.length
theorem mergeL_len : ∀ (a b : List Sn), (mergeL a b).length = a.length + b.length
  | [], b => by simp [mergeL]
  | x :: a, [] => by simp [mergeL]
  | x :: a, y :: b => by
    rw [mergeL]
    split
    · rw [List.length_cons, mergeL_len a (y :: b)]; simp only [List.length_cons]; omega
    · rw [List.length_cons, mergeL_len (x :: a) b]; simp only [List.length_cons]; omega
termination_by a b => a.length + b.length
theorem mergeL_filter (p : Sn → Bool) : ∀ (a b : List Sn), (∀ x ∈ a, p x = true) → (∀ x ∈ b, p x = false) → (mergeL a b).filter p = a ∧ (mergeL a b).filter (fun x => !p x) = b
  | [], b, _, hb => by
    rw [mergeL]
    exact ⟨List.filter_eq_nil_iff.2 fun x hx => by rw [hb x hx]; decide, List.filter_eq_self.2 fun x hx => by rw [hb x hx]; rfl⟩
  | x :: a, [], ha, _ => by
    rw [mergeL]
    exact ⟨List.filter_eq_self.2 fun x hx => ha x hx, List.filter_eq_nil_iff.2 fun x hx => by rw [ha x hx]; decide⟩
  | x :: a, y :: b, ha, hb => by
    rw [mergeL]
    have hx := ha x (by simp)
    have hy := hb y (by simp)
    split
    · obtain ⟨h1, h2⟩ := mergeL_filter p a (y :: b) (fun z hz => ha z (List.mem_cons_of_mem _ hz)) hb
      rw [List.filter_cons_of_pos hx, List.filter_cons_of_neg (by simp [hx]), h1, h2]
      exact ⟨rfl, rfl⟩
    · obtain ⟨h1, h2⟩ := mergeL_filter p (x :: a) b ha (fun z hz => hb z (List.mem_cons_of_mem _ hz))
      rw [List.filter_cons_of_neg (by simp [hy]), List.filter_cons_of_pos (by simp [hy]), h1, h2]
      exact ⟨rfl, rfl⟩
termination_by a b => a.length + b.length
theorem mergeL_sorted : ∀ (a b : List Sn), a.Pairwise (fun x y => x.t ≤ y.t) → b.Pairwise (fun x y => x.t ≤ y.t) → (mergeL a b).Pairwise (fun x y => x.t ≤ y.t)
  | [], b, _, hb => by rw [mergeL]; exact hb
  | x :: a, [], ha, _ => by rw [mergeL]; exact ha
  | x :: a, y :: b, ha, hb => by
    rw [mergeL]
    have ha' := List.pairwise_cons.1 ha
    have hb' := List.pairwise_cons.1 hb
    split
    · rename_i hle
      refine List.pairwise_cons.2 ⟨fun z hz => ?_, mergeL_sorted a (y :: b) ha'.2 hb⟩
      rcases (mergeL_mem _ _ _).1 hz with h | h
      · exact ha'.1 z h
      · rcases List.mem_cons.1 h with rfl | h
        · exact hle
        · exact Int.le_trans hle (hb'.1 z h)
    · rename_i hle
      refine List.pairwise_cons.2 ⟨fun z hz => ?_, mergeL_sorted (x :: a) b ha hb'.2⟩
      rcases (mergeL_mem _ _ _).1 hz with h | h
      · rcases List.mem_cons.1 h with rfl | h
        · omega
        · have := ha'.1 z h; omega
      · exact hb'.1 z h
termination_by a b => a.length + b.length
theorem two_merge {gap hap : Int} {a b : List Sn} (hg : 0 ≤ gap) (hh : 0 ≤ hap) (va : ∀ x ∈ a, x.v = 0) (vb : ∀ x ∈ b, x.v = 1) (pa : a.Pairwise (fun x y => x.t + gap ≤ y.t)) (pb : b.Pairwise (fun x y => x.t + hap ≤ y.t))
    (sa : ∀ x ∈ a, 0 ≤ x.t ∧ (1 ≤ x.s ∧ x.s ≤ 72)) (sb : ∀ x ∈ b, 0 ≤ x.t ∧ (1 ≤ x.s ∧ x.s ≤ 72)) : Two gap hap (mergeL a b) := by
  obtain ⟨h1, h2⟩ := mergeL_filter (fun x => decide (x.v = 0)) a b (fun x hx => decide_eq_true (va x hx)) (fun x hx => decide_eq_false (by rw [vb x hx]; decide))
  refine ⟨by rw [h1]; exact pa, by rw [h2]; exact pb, fun x hx => ?_, mergeL_sorted a b (pa.imp fun h => by omega) (pb.imp fun h => by omega), fun x hx => ?_⟩
  · rcases (mergeL_mem _ _ _).1 hx with h | h
    · exact (sa x h).2
    · exact (sb x h).2
  · rcases (mergeL_mem _ _ _).1 hx with h | h
    · exact (sa x h).1
    · exact (sb x h).1

theorem flowT_mono {ws : List Int} (h : ∀ z ∈ ws, 0 ≤ z ∧ z ≤ 255) {gap : Int} (g0 : 0 ≤ gap) : ∀ (n k : Nat), flowT ws gap k ≤ flowT ws gap (k + n)
  | 0, k => Int.le_refl _
  | n + 1, k => by
    have h1 := flowT_mono h g0 n k
    have h2 := getD_u h (k + n)
    show _ ≤ flowT ws gap (k + n) + ws.getD (k + n) 0 + gap
    omega
theorem flow_gap {ss ws : List Int} (hw : ∀ z ∈ ws, 0 ≤ z ∧ z ≤ 255) {vl gap : Int} (g0 : 0 ≤ gap) (n : Nat) : (flowL ss ws vl gap n).Pairwise (fun x y => x.t + gap ≤ y.t) := by
  rw [List.pairwise_iff_getElem]
  intro i j hi hj hij
  rw [flow_len] at hi hj
  have e1 := (List.getElem?_eq_some_iff.1 (flow_get (ss := ss) (ws := ws) (vl := vl) (gap := gap) hi)).2
  have e2 := (List.getElem?_eq_some_iff.1 (flow_get (ss := ss) (ws := ws) (vl := vl) (gap := gap) hj)).2
  rw [e1, e2]
  obtain ⟨m, rfl⟩ : ∃ m, j = i + 1 + m := ⟨j - (i + 1), by omega⟩
  have h1 := flowT_mono hw g0 m (i + 1)
  have h2 := getD_u hw (i + 1 + m)
  have h3 : flowT ws gap (i + 1) = flowT ws gap i + ws.getD i 0 + gap := rfl
  show flowT ws gap i + ws.getD i 0 + gap ≤ flowT ws gap (i + 1 + m) + ws.getD (i + 1 + m) 0
  omega
theorem flow_mem {ss ws : List Int} (hs : ∀ z ∈ ss, 0 ≤ z ∧ z ≤ 255) (hw : ∀ z ∈ ws, 0 ≤ z ∧ z ≤ 255) {vl gap : Int} (g0 : 0 ≤ gap) {n : Nat} : ∀ x ∈ flowL ss ws vl gap n, x.v = vl ∧ (0 ≤ x.t ∧ (1 ≤ x.s ∧ x.s ≤ 72)) := by
  intro x hx
  unfold flowL at hx
  obtain ⟨k, -, rfl⟩ := List.mem_map.1 hx
  have h1 := flowT_mono hw g0 k 0
  rw [Nat.zero_add] at h1
  have h2 := getD_u hw k
  have h3 := getD_u hs k
  refine ⟨rfl, ?_, ?_, ?_⟩
  · show 0 ≤ flowT ws gap k + ws.getD k 0
    have : flowT ws gap 0 = 0 := rfl
    omega
  · show 1 ≤ 1 + (ss.getD k 0) % 72; omega
  · show 1 + (ss.getD k 0) % 72 ≤ 72; omega
/-- A flow with gaps conforms to its curve. -/
theorem holds_gap {rn rd brim gap : Int} (hrn : 0 ≤ rn) (hrd : 0 < rd) (hb : brim = 72 * rd) (hg : rn * gap = 72 * rd) : ∀ (l : List Sn) (lv last : Int), lv ≤ brim → (∀ x ∈ l, last + gap ≤ x.t ∨ lv ≤ 0) → l.Pairwise (fun x y => x.t + gap ≤ y.t) → (∀ x ∈ l, last ≤ x.t ∧ (1 ≤ x.s ∧ x.s ≤ 72)) → holdsL rn rd brim lv last l = true
  | [], _, _, _, _, _, _ => rfl
  | f :: l, lv, last, hl, hgap, hp, hs => by
    rw [List.pairwise_cons] at hp
    have h1 := hs f (by simp)
    have hzero : max (lv - rn * (f.t - last)) 0 = 0 := by
      rcases hgap f (by simp) with h | h
      · have := Int.mul_le_mul_of_nonneg_left (show gap ≤ f.t - last by omega) hrn
        omega
      · have := Int.mul_nonneg hrn (show 0 ≤ f.t - last by omega)
        omega
    have hlv : lvl rn rd lv last f ≤ brim := by
      unfold lvl
      rw [hzero]
      have := Int.mul_le_mul_of_nonneg_right h1.2.2 (Int.le_of_lt hrd)
      omega
    unfold holdsL
    rw [decide_eq_true hlv, Bool.true_and]
    refine holds_gap hrn hrd hb hg l _ _ hlv (fun x hx => .inl (hp.1 x hx)) hp.2 fun x hx => ⟨?_, (hs x (List.mem_cons_of_mem _ hx)).2⟩
    have h2 := hp.1 x hx
    by_cases hg0 : 0 ≤ gap
    · omega
    · have := Int.mul_nonneg hrn (show 0 ≤ -gap by omega)
      rw [Int.mul_neg] at this
      omega
end Go.Proofs.YtbncfknjgldcbaaGreat.Mx
/- nacellelaw03.Merge. -/
namespace Go.Proofs.YtbncfknjgldcbaaGreat.Mx
open Go.RowKit Go.Joins Go.Shelf Go.Sort Num

theorem isS_tail {b off : Nat} {x : Sn} {l : List Sn} {W : World} (h : isS (some ⟨b, off, none⟩) (x :: l) W) : isS (some ⟨b, off + 3, none⟩) l W := fun _ => by
  obtain ⟨b', off', e, hb, hr⟩ := h (by simp)
  cases e
  refine ⟨b, off + 3, rfl, hb, fun j y hy => ?_⟩
  have := hr (j + 1) y (by simpa using hy)
  have e1 : off + (j + 1) * 3 = off + 3 + j * 3 := by omega
  rw [e1] at this
  exact this
set_option maxRecDepth 100000 in
set_option maxHeartbeats 8000000 in
theorem merge_any (A B : Option Addr) (ca cb : Nat) (xs ys : List Sn) (h1 : xs.length ≤ ca) (h2 : ys.length ≤ cb) (h3 : xs.length ≤ 1000 ∧ ys.length ≤ 1000) (w : World) (hA : isS A xs w) (hB : isS B ys w) :
    Calls Tryz.prog 43 #[.slice A xs.length ca, .slice B ys.length cb] w fun e w' => ∃ G c, e = .returned (.slice G (mergeL xs ys).length c) ∧ w'.ownsRow w.heap.size 85 3 (.slice G (mergeL xs ys).length c) (mergeL xs ys).length (snsOf (mergeL xs ys)) ∧ Below w.heap.size w w' := by
  obtain ⟨i0, hi, hz0, hz1, hz2⟩ := info_parts infoS
  have hA := Lib.hid hA
  have hB := Lib.hid hB
  have hlen := mergeL_len xs ys
  obtain ⟨M, hM⟩ : ∃ M, mergeL xs ys = M := ⟨_, rfl⟩
  rw [hM] at hlen ⊢
  have hM := Lib.hid hM
  go_enter Tryz.func43, Tryz.ntmps43
  go_wp2_with fail
  go_loopw [0, 1, 5] (fun u v o wr => ∃ (ls rs l : List Sn) (A1 B1 G : Option Addr) (c1 c2 c : Nat), u = .slice A1 ls.length c1 ∧ v = .slice B1 rs.length c2 ∧ o = .slice G l.length c ∧ (ls.length ≤ c1 ∧ rs.length ≤ c2) ∧ isS A1 ls w ∧ isS B1 rs w ∧ l ++ mergeL ls rs = M ∧ wr.ownsRow w.heap.size 85 3 (.slice G l.length c) l.length (snsOf l) ∧ Below w.heap.size w wr)
    (fun u v _ _ => (match u with | .slice _ n _ => n | _ => 0) + (match v with | .slice _ n _ => n | _ => 0))
  case atStart => exact ⟨xs, ys, [], A, B, none, ca, cb, 0, rfl, rfl, rfl, ⟨h1, h2⟩, hA.out, hB.out, hM.out, World.ownsRow_nil _ _ _ _, Below.refl _ _⟩
  case round =>
    obtain ⟨ls, rs, l, A1, B1, G, c1, c2, c, rfl, rfl, rfl, ⟨k1, k2⟩, hS1, hS2, hml, hown, hBw⟩ := hrel
    have hll : l.length + (ls.length + rs.length) = xs.length + ys.length := by rw [← hlen, ← hml, List.length_append, mergeL_len]
    have Hown := Lib.hid hown
    have HB := Lib.hid hBw
    have HS1 := Lib.hid hS1
    have HS2 := Lib.hid hS2
    have Hml := Lib.hid hml
    have hwz := hBw.size
    clear hown hBw hS1 hS2 hml
    cases ls with
    | nil =>
      cases rs with
      | nil =>
        have he : l = M := by have := Hml.out; rwa [mergeL, List.append_nil] at this
        subst he
        go_wp2
        go_ret
        exact ⟨G, c, rfl, Hown.out, HB.out⟩
      | cons y rs =>
        obtain ⟨b, off, rfl, hb, hr⟩ := HS2.out (by simp)
        obtain ⟨d0, d1, d2⟩ := hr 0 y rfl
        simp only [Nat.zero_mul, Nat.add_zero] at d0 d1 d2
        clear hr
        obtain ⟨xsl, hxsl⟩ : ∃ v, snsOf l = v := ⟨_, rfl⟩
        have hfin : Hid (snsOf (l ++ [y]) = xsl ++ [.int .i64 y.t, .int .i64 y.v, .int .i64 y.s]) := by unfold Hid snsOf; rw [List.flatMap_append]; show snsOf l ++ _ = _; rw [hxsl]; rfl
        have hone : Hid (∀ u ∈ [Value.int .i64 y.t, .int .i64 y.v, .int .i64 y.s], u.oneCell' = true) := by
          intro u hu
          simp only [List.mem_cons, List.not_mem_nil, or_false] at hu
          rcases hu with rfl | rfl | rfl <;> rfl
        rw [hxsl] at Hown
        have hS2' : Hid (isS (if c2 = 1 then some ⟨b, off, none⟩ else some ⟨b, off + 3, none⟩) rs w) := by
          unfold Hid
          split
          · intro h
            have := List.length_pos_iff.2 h
            simp only [List.length_cons] at k2
            omega
          · exact isS_tail HS2.out
        simp only [List.length_nil, List.length_cons] at *
        generalize hbl : rs.length = nb at *
        obtain ⟨nl, hl⟩ : ∃ n, l.length = n := ⟨_, rfl⟩
        rw [hl] at Hown ⊢
        have hl' := Lib.hid hl
        have hnlb : nl ≤ 3000 := by omega
        have hq1 : (((nb : Nat) : Int) + 1 == 0) = false := by simp; omega
        have hs1 : (1 : Int) ≤ (nb : Int) + 1 := by omega
        clear hl hxsl
        go_wp2_with fail
        go_quiet (fail)
        go_wp2_with fail
        rename_i nq
        have hown0 : (wr.drewN nq).ownsRow w.heap.size 85 3 (.slice G nl c) nl xsl := Hown.out
        have hB0 := below_drewN HB.out nq
        have hsz0 := hB0.size
        generalize wr.drewN nq = W0 at *
        refine wp_region_inv (Inv := fun Lb a W => ∃ (b0 b1 b2 b3 b4 b5 b6 b7 b8 b9 : Bool) (B : Nat) (G' : Nat) (c' : Nat), Lb = #[b0, b1, b2, b3, b4, b5, b6, b7, b8, b9] ∧ a = { tmps := #[Value.slice A1 0 c1, (bif b9 then .slice (if c2 = 1 then some ⟨b, off, none⟩ else some ⟨b, off + 3, none⟩) nb (c2 - 1) else Value.slice (some ⟨b, off, none⟩) (nb + 1) c2), undef, undef, Value.slice none 0 0, (bif b8 then .slice (some ⟨G', 0, none⟩) (nl + 1) c' else Value.slice G nl c), Value.slice A1 0 c1, Value.int IntKind.i64 0, Value.slice (some ⟨b, off, none⟩) (nb + 1) c2, Value.int IntKind.i64 (↑nb + 1), Value.int IntKind.i64 (↑nb + 1), Value.bool true, Value.slice (some ⟨b, off, none⟩) (nb + 1) c2, Value.int IntKind.i64 (↑nb + 1), Value.bool false, Value.bool false, Value.slice A1 0 c1, Value.int IntKind.i64 0, Value.bool false, Value.bool false, undef, undef, undef, undef, undef, undef, undef, undef, undef, Value.bool false, Value.bool false, u31, u32, u33, u34, u35, u36, u37, u38, (bif b0 then .slice G nl c else u39), (bif b1 then .slice (some ⟨b, off, none⟩) (nb + 1) c2 else u40), (bif b2 then .pointer (some ⟨b, off, none⟩) else u41), (bif b3 then .agg #[.int .i64 y.t, .int .i64 y.v, .int .i64 y.s] else u42), (bif b4 then .slice (some ⟨B, 0, none⟩) 1 1 else u43), (bif b5 then .slice (some ⟨G', 0, none⟩) (nl + 1) c' else u44), (bif b6 then .slice (some ⟨b, off, none⟩) (nb + 1) c2 else u45), (bif b7 then .slice (if c2 = 1 then some ⟨b, off, none⟩ else some ⟨b, off + 3, none⟩) nb (c2 - 1) else u46), undef], defers := [] } ∧ (b2 = true → b1 = true) ∧ (b3 = true → b2 = true) ∧ (b4 = true → b3 = true) ∧ (b5 = true → b0 = true ∧ b4 = true) ∧ (b7 = true → b6 = true) ∧ (b8 = true → b5 = true) ∧ (b9 = true → b7 = true ∧ b8 = true) ∧ (b5 = false → (W.ownsRow w.heap.size 85 3 (.slice G nl c) nl xsl ∧ w.heap.size ≤ W.heap.size ∧ Below w.heap.size w W) ∧ (b4 = true → BoxN W B 85 #[.int .i64 y.t, .int .i64 y.v, .int .i64 y.s])) ∧ (b5 = true → W.ownsRow w.heap.size 85 3 (.slice (some ⟨G', 0, none⟩) (nl + 1) c') (nl + 1) (xsl ++ [.int .i64 y.t, .int .i64 y.v, .int .i64 y.s]) ∧ Below w.heap.size w W)) (by kernel_rfl) (down_of (by decide +kernel)) ?start ?size ?done ?step
        case start => exact ⟨false, false, false, false, false, false, false, false, false, false, 0, 0, 0, rfl, rfl, by simp, by simp, by simp, by simp, by simp, by simp, by simp, fun _ => ⟨⟨hown0.drew, hsz0, hB0.drew⟩, by simp⟩, by simp⟩
        case size =>
          rintro Lb aR W ⟨b0, b1, b2, b3, b4, b5, b6, b7, b8, b9, B, G', c', rfl, -⟩
          rfl
        case step =>
          rintro Lb aR W i o ⟨b0, b1, b2, b3, b4, b5, b6, b7, b8, b9, B, G', c', rfl, rfl, p2, p3, p4, p5, p7, p8, p9, f0, f1⟩ ho hl' hdep
          have hi' : i < 10 := (Array.getElem?_eq_some_iff.1 ho).1
          have hi2 : i = 0 ∨ i = 1 ∨ i = 2 ∨ i = 3 ∨ i = 4 ∨ i = 5 ∨ i = 6 ∨ i = 7 ∨ i = 8 ∨ i = 9 := by omega
          clear hi' hown0 hB0 hsz0
          replace p2 := Lib.hid p2
          replace p3 := Lib.hid p3
          replace p4 := Lib.hid p4
          replace p5 := Lib.hid p5
          replace p7 := Lib.hid p7
          replace p8 := Lib.hid p8
          replace p9 := Lib.hid p9
          replace f0 := Lib.hid f0
          replace f1 := Lib.hid f1
          rcases hi2 with rfl | rfl | rfl | rfl | rfl | rfl | rfl | rfl | rfl | rfl
          · cases ho
            obtain rfl : b0 = false := hl'
            clear hdep
            obtain rfl : b5 = false := by cases b5 with | false => rfl | true => exact absurd (p5.out rfl).1 (by simp)
            obtain rfl : b8 = false := by cases b8 with | false => rfl | true => exact absurd (p8.out rfl) (by simp)
            obtain rfl : b9 = false := by cases b9 with | false => rfl | true => exact absurd (p9.out rfl).2 (by simp)
            refine wpOp_step rfl (fun K hK => ?_)
            go_simp
            refine hK _ _ ?_; clear hK K
            exact ⟨true, b1, b2, b3, b4, false, b6, b7, false, false, B, G', c', rfl, rfl, p2.out, p3.out, p4.out, by simp, p7.out, by simp, by simp, f0.out, f1.out⟩
          · cases ho
            obtain rfl : b1 = false := hl'
            clear hdep
            obtain rfl : b2 = false := by cases b2 with | false => rfl | true => exact absurd (p2.out rfl) (by simp)
            obtain rfl : b3 = false := by cases b3 with | false => rfl | true => exact absurd (p3.out rfl) (by simp)
            obtain rfl : b4 = false := by cases b4 with | false => rfl | true => exact absurd (p4.out rfl) (by simp)
            obtain rfl : b5 = false := by cases b5 with | false => rfl | true => exact absurd (p5.out rfl).2 (by simp)
            obtain rfl : b8 = false := by cases b8 with | false => rfl | true => exact absurd (p8.out rfl) (by simp)
            obtain rfl : b9 = false := by cases b9 with | false => rfl | true => exact absurd (p9.out rfl).2 (by simp)
            refine wpOp_step rfl (fun K hK => ?_)
            go_simp
            refine hK _ _ ?_; clear hK K
            exact ⟨b0, true, false, false, false, false, b6, b7, false, false, B, G', c', rfl, rfl, by simp, by simp, by simp, by simp, p7.out, by simp, by simp, f0.out, f1.out⟩
          · cases ho
            obtain rfl : b2 = false := hl'
            obtain rfl : b1 = true := hdep ⟨1, .data⟩ (by simp) rfl
            clear hdep
            obtain rfl : b3 = false := by cases b3 with | false => rfl | true => exact absurd (p3.out rfl) (by simp)
            obtain rfl : b4 = false := by cases b4 with | false => rfl | true => exact absurd (p4.out rfl) (by simp)
            obtain rfl : b5 = false := by cases b5 with | false => rfl | true => exact absurd (p5.out rfl).2 (by simp)
            obtain rfl : b8 = false := by cases b8 with | false => rfl | true => exact absurd (p8.out rfl) (by simp)
            obtain rfl : b9 = false := by cases b9 with | false => rfl | true => exact absurd (p9.out rfl).2 (by simp)
            refine wpOp_step rfl (fun K hK => ?_)
            simp only [cond_true]
            go_simp
            refine hK _ _ ?_; clear hK K
            exact ⟨b0, true, true, false, false, false, b6, b7, false, false, B, G', c', rfl, rfl, by simp, by simp, by simp, by simp, p7.out, by simp, by simp, f0.out, f1.out⟩
          · cases ho
            obtain rfl : b3 = false := hl'
            obtain rfl : b2 = true := hdep ⟨2, .data⟩ (by simp) rfl
            clear hdep
            obtain rfl : b4 = false := by cases b4 with | false => rfl | true => exact absurd (p4.out rfl) (by simp)
            obtain rfl : b5 = false := by cases b5 with | false => rfl | true => exact absurd (p5.out rfl).2 (by simp)
            obtain rfl : b8 = false := by cases b8 with | false => rfl | true => exact absurd (p8.out rfl) (by simp)
            obtain rfl : b9 = false := by cases b9 with | false => rfl | true => exact absurd (p9.out rfl).2 (by simp)
            have c0 := ((f0.out rfl).1.2.2.cell (p := ⟨b, off, none⟩) hb).trans d0
            have c1' := ((f0.out rfl).1.2.2.cell (p := ⟨b, off + 1, none⟩) hb).trans d1
            have c2' := ((f0.out rfl).1.2.2.cell (p := ⟨b, off + 2, none⟩) hb).trans d2
            refine wpOp_step rfl (fun K hK => ?_)
            simp only [cond_true]
            go_simp
            refine hK _ _ ?_; clear hK K
            exact ⟨b0, b1, true, true, false, false, b6, b7, false, false, B, G', c', rfl, rfl, p2.out, by simp, by simp, by simp, p7.out, by simp, by simp, f0.out, f1.out⟩
          · cases ho
            obtain rfl : b4 = false := hl'
            obtain rfl : b3 = true := hdep ⟨3, .data⟩ (by simp) rfl
            clear hdep
            obtain rfl : b5 = false := by cases b5 with | false => rfl | true => exact absurd (p5.out rfl).2 (by simp)
            obtain rfl : b8 = false := by cases b8 with | false => rfl | true => exact absurd (p8.out rfl) (by simp)
            obtain rfl : b9 = false := by cases b9 with | false => rfl | true => exact absurd (p9.out rfl).2 (by simp)
            obtain ⟨⟨hown, hSl, hBw⟩, -⟩ := f0.out rfl
            have hNew := BoxN.new W 85 #[.int .i64 y.t, .int .i64 y.v, .int .i64 y.s]
            have Hown := Lib.hid hown
            have HBw := Lib.hid hBw
            have HSl := Lib.hid hSl
            clear hown hBw hSl
            refine wpOp_step rfl (fun K hK => ?_)
            simp only [cond_true]
            go_simp
            refine hK _ _ ?_; clear hK K
            exact ⟨b0, b1, b2, true, true, false, b6, b7, false, false, W.heap.size, G', c', rfl, rfl, p2.out, p3.out, by simp, by simp, p7.out, by simp, by simp, fun _ => ⟨⟨Hown.out.alloc _, by rw [World.size_alloc]; exact Nat.le_succ_of_le HSl.out, HBw.out.alloc HBw.out.size _⟩, fun _ => hNew⟩, by simp⟩
          · cases ho
            obtain rfl : b5 = false := hl'
            obtain rfl : b0 = true := hdep ⟨0, .data⟩ (by simp) rfl
            obtain rfl : b4 = true := hdep ⟨4, .data⟩ (by simp) rfl
            clear hdep
            obtain rfl : b8 = false := by cases b8 with | false => rfl | true => exact absurd (p8.out rfl) (by simp)
            obtain rfl : b9 = false := by cases b9 with | false => rfl | true => exact absurd (p9.out rfl).2 (by simp)
            obtain ⟨⟨hown, hSl, hBw⟩, hbN⟩ := f0.out rfl
            have hNews := World.news_of_block (cs := #[.int .i64 y.t, .int .i64 y.v, .int .i64 y.s]) (t := 85) (fr := (0, 0)) (hbN rfl)
            refine wpOp_step rfl (fun K hK => ?_)
            refine step_append_lies _ rfl (.tmp 39) (.tmp 43) 61 rfl w.heap.size 85 i0 _ 3 24 Tryz.underlying61 hi hz0 hz1 hz2 rfl (by decide) (.slice G nl c) nl xsl rfl hown ⟨B, 0, none⟩ 1 1 [.int .i64 y.t, .int .i64 y.v, .int .i64 y.s] rfl rfl hNews hone.out (by decide) (by unfold maxLen; omega) (by omega) hSl _ rfl ?_
            intro G5 c5 w5 hn5 hg5 _ _
            refine hK _ _ ?_; clear hK K
            exact ⟨true, b1, b2, b3, true, true, b6, b7, false, false, B, G5, c5, rfl, rfl, p2.out, p3.out, p4.out, by simp, p7.out, by simp, by simp, by simp, fun _ => ⟨hn5, hBw.grown hg5 hBw.size (fun j e => own_block_le hown e)⟩⟩
          · cases ho
            obtain rfl : b6 = false := hl'
            clear hdep
            obtain rfl : b7 = false := by cases b7 with | false => rfl | true => exact absurd (p7.out rfl) (by simp)
            obtain rfl : b9 = false := by cases b9 with | false => rfl | true => exact absurd (p9.out rfl).1 (by simp)
            refine wpOp_step rfl (fun K hK => ?_)
            go_simp
            refine hK _ _ ?_; clear hK K
            exact ⟨b0, b1, b2, b3, b4, b5, true, false, b8, false, B, G', c', rfl, rfl, p2.out, p3.out, p4.out, p5.out, by simp, p8.out, by simp, f0.out, f1.out⟩
          · cases ho
            obtain rfl : b7 = false := hl'
            obtain rfl : b6 = true := hdep ⟨6, .data⟩ (by simp) rfl
            clear hdep
            obtain rfl : b9 = false := by cases b9 with | false => rfl | true => exact absurd (p9.out rfl).1 (by simp)
            refine wpOp_step rfl (fun K hK => ?_)
            simp only [cond_true]
            go_simp
            refine hK _ _ ?_; clear hK K
            exact ⟨b0, b1, b2, b3, b4, b5, true, true, b8, false, B, G', c', rfl, rfl, p2.out, p3.out, p4.out, p5.out, by simp, p8.out, by simp, f0.out, f1.out⟩
          · cases ho
            obtain rfl : b8 = false := hl'
            obtain rfl : b5 = true := hdep ⟨5, .data⟩ (by simp) rfl
            clear hdep
            obtain rfl : b9 = false := by cases b9 with | false => rfl | true => exact absurd (p9.out rfl).2 (by simp)
            refine wpOp_step rfl (fun K hK => ?_)
            simp only [cond_true]
            go_simp
            refine hK _ _ ?_; clear hK K
            exact ⟨b0, b1, b2, b3, b4, true, b6, b7, true, false, B, G', c', rfl, rfl, p2.out, p3.out, p4.out, p5.out, p7.out, by simp, by simp, f0.out, f1.out⟩
          · cases ho
            obtain rfl : b9 = false := hl'
            obtain rfl : b7 = true := hdep ⟨7, .data⟩ (by simp) rfl
            obtain rfl : b8 = true := hdep ⟨8, .chain⟩ (by simp) rfl
            clear hdep
            refine wpOp_step rfl (fun K hK => ?_)
            simp only [cond_true]
            go_simp
            refine hK _ _ ?_; clear hK K
            exact ⟨b0, b1, b2, b3, b4, b5, b6, true, true, true, B, G', c', rfl, rfl, p2.out, p3.out, p4.out, p5.out, p7.out, p8.out, by simp, f0.out, f1.out⟩
        case done =>
          rintro Lb aR W ⟨j0, j1, j2, j3, j4, j5, j6, j7, j8, j9, B, G', c', rfl, rfl, -, -, -, -, -, -, -, f0, f1⟩ hall
          obtain rfl : j0 = true := hall 0 (by decide)
          obtain rfl : j1 = true := hall 1 (by decide)
          obtain rfl : j2 = true := hall 2 (by decide)
          obtain rfl : j3 = true := hall 3 (by decide)
          obtain rfl : j4 = true := hall 4 (by decide)
          obtain rfl : j5 = true := hall 5 (by decide)
          obtain rfl : j6 = true := hall 6 (by decide)
          obtain rfl : j7 = true := hall 7 (by decide)
          obtain rfl : j8 = true := hall 8 (by decide)
          obtain rfl : j9 = true := hall 9 (by decide)
          clear hall
          obtain ⟨hown2, hB2⟩ := f1 rfl
          have Hown2 := Lib.hid hown2
          have HB2 := Lib.hid hB2
          clear f0 f1 hown2 hB2 hown0 hB0 hsz0
          simp only [cond_true]
          go_wp2_with fail
          go_roundw
          case rel => exact ⟨[], rs, l ++ [y], A1, (if c2 = 1 then some ⟨b, off, none⟩ else some ⟨b, off + 3, none⟩), some ⟨G', 0, none⟩, c1, c2 - 1, c', rfl, by rw [hbl], by rw [List.length_append, hl'.out]; rfl, ⟨by simp, by omega⟩, fun h => absurd rfl h, hS2'.out, by rw [← Hml.out]; simp [mergeL], by rw [List.length_append, hl'.out, hfin.out]; exact Hown2.out, HB2.out⟩
          case measure => simp; try omega
    | cons x ls =>
      cases rs with
      | nil =>
        obtain ⟨b, off, rfl, hb, hr⟩ := HS1.out (by simp)
        obtain ⟨d0, d1, d2⟩ := hr 0 x rfl
        simp only [Nat.zero_mul, Nat.add_zero] at d0 d1 d2
        clear hr
        obtain ⟨xsl, hxsl⟩ : ∃ v, snsOf l = v := ⟨_, rfl⟩
        have hfin : Hid (snsOf (l ++ [x]) = xsl ++ [.int .i64 x.t, .int .i64 x.v, .int .i64 x.s]) := by unfold Hid snsOf; rw [List.flatMap_append]; show snsOf l ++ _ = _; rw [hxsl]; rfl
        have hone : Hid (∀ u ∈ [Value.int .i64 x.t, .int .i64 x.v, .int .i64 x.s], u.oneCell' = true) := by
          intro u hu
          simp only [List.mem_cons, List.not_mem_nil, or_false] at hu
          rcases hu with rfl | rfl | rfl <;> rfl
        rw [hxsl] at Hown
        have hS1' : Hid (isS (if c1 = 1 then some ⟨b, off, none⟩ else some ⟨b, off + 3, none⟩) ls w) := by
          unfold Hid
          split
          · intro h
            have := List.length_pos_iff.2 h
            simp only [List.length_cons] at k1
            omega
          · exact isS_tail HS1.out
        simp only [List.length_nil, List.length_cons] at *
        generalize hal : ls.length = na at *
        obtain ⟨nl, hl⟩ : ∃ n, l.length = n := ⟨_, rfl⟩
        rw [hl] at Hown ⊢
        have hl' := Lib.hid hl
        have hnlb : nl ≤ 3000 := by omega
        have hs2 : (1 : Int) ≤ (na : Int) + 1 := by omega
        have hq2 : decide ((0 : Int) < (na : Int) + 1) = true := decide_eq_true (by omega)
        clear hl hxsl
        go_wp2_with fail
        go_quiet (fail)
        go_wp2_with fail
        rename_i nq
        have hown0 : (wr.drewN nq).ownsRow w.heap.size 85 3 (.slice G nl c) nl xsl := Hown.out
        have hB0 := below_drewN HB.out nq
        have hsz0 := hB0.size
        generalize wr.drewN nq = W0 at *
        refine wp_region_inv (Inv := fun Lb a W => ∃ (b0 b1 b2 b3 b4 b5 b6 b7 b8 b9 : Bool) (B : Nat) (G' : Nat) (c' : Nat), Lb = #[b0, b1, b2, b3, b4, b5, b6, b7, b8, b9] ∧ a = { tmps := #[(bif b9 then .slice (if c1 = 1 then some ⟨b, off, none⟩ else some ⟨b, off + 3, none⟩) na (c1 - 1) else Value.slice (some ⟨b, off, none⟩) (na + 1) c1), Value.slice B1 0 c2, undef, undef, Value.slice none 0 0, (bif b8 then .slice (some ⟨G', 0, none⟩) (nl + 1) c' else Value.slice G nl c), Value.slice (some ⟨b, off, none⟩) (na + 1) c1, Value.int IntKind.i64 (↑na + 1), Value.slice B1 0 c2, Value.int IntKind.i64 0, Value.int IntKind.i64 (↑na + 1), Value.bool true, Value.slice B1 0 c2, Value.int IntKind.i64 0, Value.bool true, Value.bool true, undef, undef, undef, undef, undef, undef, undef, undef, undef, undef, undef, undef, undef, undef, Value.bool true, (bif b0 then .slice G nl c else u31), (bif b1 then .slice (some ⟨b, off, none⟩) (na + 1) c1 else u32), (bif b2 then .pointer (some ⟨b, off, none⟩) else u33), (bif b3 then .agg #[.int .i64 x.t, .int .i64 x.v, .int .i64 x.s] else u34), (bif b4 then .slice (some ⟨B, 0, none⟩) 1 1 else u35), (bif b5 then .slice (some ⟨G', 0, none⟩) (nl + 1) c' else u36), (bif b6 then .slice (some ⟨b, off, none⟩) (na + 1) c1 else u37), (bif b7 then .slice (if c1 = 1 then some ⟨b, off, none⟩ else some ⟨b, off + 3, none⟩) na (c1 - 1) else u38), u39, u40, u41, u42, u43, u44, u45, u46, undef], defers := [] } ∧ (b2 = true → b1 = true) ∧ (b3 = true → b2 = true) ∧ (b4 = true → b3 = true) ∧ (b5 = true → b0 = true ∧ b4 = true) ∧ (b7 = true → b6 = true) ∧ (b8 = true → b5 = true) ∧ (b9 = true → b7 = true ∧ b8 = true) ∧ (b5 = false → (W.ownsRow w.heap.size 85 3 (.slice G nl c) nl xsl ∧ w.heap.size ≤ W.heap.size ∧ Below w.heap.size w W) ∧ (b4 = true → BoxN W B 85 #[.int .i64 x.t, .int .i64 x.v, .int .i64 x.s])) ∧ (b5 = true → W.ownsRow w.heap.size 85 3 (.slice (some ⟨G', 0, none⟩) (nl + 1) c') (nl + 1) (xsl ++ [.int .i64 x.t, .int .i64 x.v, .int .i64 x.s]) ∧ Below w.heap.size w W)) (by kernel_rfl) (down_of (by decide +kernel)) ?start ?size ?done ?step
        case start => exact ⟨false, false, false, false, false, false, false, false, false, false, 0, 0, 0, rfl, rfl, by simp, by simp, by simp, by simp, by simp, by simp, by simp, fun _ => ⟨⟨hown0.drew, hsz0, hB0.drew⟩, by simp⟩, by simp⟩
        case size =>
          rintro Lb aR W ⟨b0, b1, b2, b3, b4, b5, b6, b7, b8, b9, B, G', c', rfl, -⟩
          rfl
        case step =>
          rintro Lb aR W i o ⟨b0, b1, b2, b3, b4, b5, b6, b7, b8, b9, B, G', c', rfl, rfl, p2, p3, p4, p5, p7, p8, p9, f0, f1⟩ ho hl' hdep
          have hi' : i < 10 := (Array.getElem?_eq_some_iff.1 ho).1
          have hi2 : i = 0 ∨ i = 1 ∨ i = 2 ∨ i = 3 ∨ i = 4 ∨ i = 5 ∨ i = 6 ∨ i = 7 ∨ i = 8 ∨ i = 9 := by omega
          clear hi' hown0 hB0 hsz0
          replace p2 := Lib.hid p2
          replace p3 := Lib.hid p3
          replace p4 := Lib.hid p4
          replace p5 := Lib.hid p5
          replace p7 := Lib.hid p7
          replace p8 := Lib.hid p8
          replace p9 := Lib.hid p9
          replace f0 := Lib.hid f0
          replace f1 := Lib.hid f1
          rcases hi2 with rfl | rfl | rfl | rfl | rfl | rfl | rfl | rfl | rfl | rfl
          · cases ho
            obtain rfl : b0 = false := hl'
            clear hdep
            obtain rfl : b5 = false := by cases b5 with | false => rfl | true => exact absurd (p5.out rfl).1 (by simp)
            obtain rfl : b8 = false := by cases b8 with | false => rfl | true => exact absurd (p8.out rfl) (by simp)
            obtain rfl : b9 = false := by cases b9 with | false => rfl | true => exact absurd (p9.out rfl).2 (by simp)
            refine wpOp_step rfl (fun K hK => ?_)
            go_simp
            refine hK _ _ ?_; clear hK K
            exact ⟨true, b1, b2, b3, b4, false, b6, b7, false, false, B, G', c', rfl, rfl, p2.out, p3.out, p4.out, by simp, p7.out, by simp, by simp, f0.out, f1.out⟩
          · cases ho
            obtain rfl : b1 = false := hl'
            clear hdep
            obtain rfl : b2 = false := by cases b2 with | false => rfl | true => exact absurd (p2.out rfl) (by simp)
            obtain rfl : b3 = false := by cases b3 with | false => rfl | true => exact absurd (p3.out rfl) (by simp)
            obtain rfl : b4 = false := by cases b4 with | false => rfl | true => exact absurd (p4.out rfl) (by simp)
            obtain rfl : b5 = false := by cases b5 with | false => rfl | true => exact absurd (p5.out rfl).2 (by simp)
            obtain rfl : b8 = false := by cases b8 with | false => rfl | true => exact absurd (p8.out rfl) (by simp)
            obtain rfl : b9 = false := by cases b9 with | false => rfl | true => exact absurd (p9.out rfl).2 (by simp)
            refine wpOp_step rfl (fun K hK => ?_)
            go_simp
            refine hK _ _ ?_; clear hK K
            exact ⟨b0, true, false, false, false, false, b6, b7, false, false, B, G', c', rfl, rfl, by simp, by simp, by simp, by simp, p7.out, by simp, by simp, f0.out, f1.out⟩
          · cases ho
            obtain rfl : b2 = false := hl'
            obtain rfl : b1 = true := hdep ⟨1, .data⟩ (by simp) rfl
            clear hdep
            obtain rfl : b3 = false := by cases b3 with | false => rfl | true => exact absurd (p3.out rfl) (by simp)
            obtain rfl : b4 = false := by cases b4 with | false => rfl | true => exact absurd (p4.out rfl) (by simp)
            obtain rfl : b5 = false := by cases b5 with | false => rfl | true => exact absurd (p5.out rfl).2 (by simp)
            obtain rfl : b8 = false := by cases b8 with | false => rfl | true => exact absurd (p8.out rfl) (by simp)
            obtain rfl : b9 = false := by cases b9 with | false => rfl | true => exact absurd (p9.out rfl).2 (by simp)
            refine wpOp_step rfl (fun K hK => ?_)
            simp only [cond_true]
            go_simp
            refine hK _ _ ?_; clear hK K
            exact ⟨b0, true, true, false, false, false, b6, b7, false, false, B, G', c', rfl, rfl, by simp, by simp, by simp, by simp, p7.out, by simp, by simp, f0.out, f1.out⟩
          · cases ho
            obtain rfl : b3 = false := hl'
            obtain rfl : b2 = true := hdep ⟨2, .data⟩ (by simp) rfl
            clear hdep
            obtain rfl : b4 = false := by cases b4 with | false => rfl | true => exact absurd (p4.out rfl) (by simp)
            obtain rfl : b5 = false := by cases b5 with | false => rfl | true => exact absurd (p5.out rfl).2 (by simp)
            obtain rfl : b8 = false := by cases b8 with | false => rfl | true => exact absurd (p8.out rfl) (by simp)
            obtain rfl : b9 = false := by cases b9 with | false => rfl | true => exact absurd (p9.out rfl).2 (by simp)
            have c0 := ((f0.out rfl).1.2.2.cell (p := ⟨b, off, none⟩) hb).trans d0
            have c1' := ((f0.out rfl).1.2.2.cell (p := ⟨b, off + 1, none⟩) hb).trans d1
            have c2' := ((f0.out rfl).1.2.2.cell (p := ⟨b, off + 2, none⟩) hb).trans d2
            refine wpOp_step rfl (fun K hK => ?_)
            simp only [cond_true]
            go_simp
            refine hK _ _ ?_; clear hK K
            exact ⟨b0, b1, true, true, false, false, b6, b7, false, false, B, G', c', rfl, rfl, p2.out, by simp, by simp, by simp, p7.out, by simp, by simp, f0.out, f1.out⟩
          · cases ho
            obtain rfl : b4 = false := hl'
            obtain rfl : b3 = true := hdep ⟨3, .data⟩ (by simp) rfl
            clear hdep
            obtain rfl : b5 = false := by cases b5 with | false => rfl | true => exact absurd (p5.out rfl).2 (by simp)
            obtain rfl : b8 = false := by cases b8 with | false => rfl | true => exact absurd (p8.out rfl) (by simp)
            obtain rfl : b9 = false := by cases b9 with | false => rfl | true => exact absurd (p9.out rfl).2 (by simp)
            obtain ⟨⟨hown, hSl, hBw⟩, -⟩ := f0.out rfl
            have hNew := BoxN.new W 85 #[.int .i64 x.t, .int .i64 x.v, .int .i64 x.s]
            have Hown := Lib.hid hown
            have HBw := Lib.hid hBw
            have HSl := Lib.hid hSl
            clear hown hBw hSl
            refine wpOp_step rfl (fun K hK => ?_)
            simp only [cond_true]
            go_simp
            refine hK _ _ ?_; clear hK K
            exact ⟨b0, b1, b2, true, true, false, b6, b7, false, false, W.heap.size, G', c', rfl, rfl, p2.out, p3.out, by simp, by simp, p7.out, by simp, by simp, fun _ => ⟨⟨Hown.out.alloc _, by rw [World.size_alloc]; exact Nat.le_succ_of_le HSl.out, HBw.out.alloc HBw.out.size _⟩, fun _ => hNew⟩, by simp⟩
          · cases ho
            obtain rfl : b5 = false := hl'
            obtain rfl : b0 = true := hdep ⟨0, .data⟩ (by simp) rfl
            obtain rfl : b4 = true := hdep ⟨4, .data⟩ (by simp) rfl
            clear hdep
            obtain rfl : b8 = false := by cases b8 with | false => rfl | true => exact absurd (p8.out rfl) (by simp)
            obtain rfl : b9 = false := by cases b9 with | false => rfl | true => exact absurd (p9.out rfl).2 (by simp)
            obtain ⟨⟨hown, hSl, hBw⟩, hbN⟩ := f0.out rfl
            have hNews := World.news_of_block (cs := #[.int .i64 x.t, .int .i64 x.v, .int .i64 x.s]) (t := 85) (fr := (0, 0)) (hbN rfl)
            refine wpOp_step rfl (fun K hK => ?_)
            refine step_append_lies _ rfl (.tmp 31) (.tmp 35) 61 rfl w.heap.size 85 i0 _ 3 24 Tryz.underlying61 hi hz0 hz1 hz2 rfl (by decide) (.slice G nl c) nl xsl rfl hown ⟨B, 0, none⟩ 1 1 [.int .i64 x.t, .int .i64 x.v, .int .i64 x.s] rfl rfl hNews hone.out (by decide) (by unfold maxLen; omega) (by omega) hSl _ rfl ?_
            intro G5 c5 w5 hn5 hg5 _ _
            refine hK _ _ ?_; clear hK K
            exact ⟨true, b1, b2, b3, true, true, b6, b7, false, false, B, G5, c5, rfl, rfl, p2.out, p3.out, p4.out, by simp, p7.out, by simp, by simp, by simp, fun _ => ⟨hn5, hBw.grown hg5 hBw.size (fun j e => own_block_le hown e)⟩⟩
          · cases ho
            obtain rfl : b6 = false := hl'
            clear hdep
            obtain rfl : b7 = false := by cases b7 with | false => rfl | true => exact absurd (p7.out rfl) (by simp)
            obtain rfl : b9 = false := by cases b9 with | false => rfl | true => exact absurd (p9.out rfl).1 (by simp)
            refine wpOp_step rfl (fun K hK => ?_)
            go_simp
            refine hK _ _ ?_; clear hK K
            exact ⟨b0, b1, b2, b3, b4, b5, true, false, b8, false, B, G', c', rfl, rfl, p2.out, p3.out, p4.out, p5.out, by simp, p8.out, by simp, f0.out, f1.out⟩
          · cases ho
            obtain rfl : b7 = false := hl'
            obtain rfl : b6 = true := hdep ⟨6, .data⟩ (by simp) rfl
            clear hdep
            obtain rfl : b9 = false := by cases b9 with | false => rfl | true => exact absurd (p9.out rfl).1 (by simp)
            refine wpOp_step rfl (fun K hK => ?_)
            simp only [cond_true]
            go_simp
            refine hK _ _ ?_; clear hK K
            exact ⟨b0, b1, b2, b3, b4, b5, true, true, b8, false, B, G', c', rfl, rfl, p2.out, p3.out, p4.out, p5.out, by simp, p8.out, by simp, f0.out, f1.out⟩
          · cases ho
            obtain rfl : b8 = false := hl'
            obtain rfl : b5 = true := hdep ⟨5, .data⟩ (by simp) rfl
            clear hdep
            obtain rfl : b9 = false := by cases b9 with | false => rfl | true => exact absurd (p9.out rfl).2 (by simp)
            refine wpOp_step rfl (fun K hK => ?_)
            simp only [cond_true]
            go_simp
            refine hK _ _ ?_; clear hK K
            exact ⟨b0, b1, b2, b3, b4, true, b6, b7, true, false, B, G', c', rfl, rfl, p2.out, p3.out, p4.out, p5.out, p7.out, by simp, by simp, f0.out, f1.out⟩
          · cases ho
            obtain rfl : b9 = false := hl'
            obtain rfl : b7 = true := hdep ⟨7, .data⟩ (by simp) rfl
            obtain rfl : b8 = true := hdep ⟨8, .chain⟩ (by simp) rfl
            clear hdep
            refine wpOp_step rfl (fun K hK => ?_)
            simp only [cond_true]
            go_simp
            refine hK _ _ ?_; clear hK K
            exact ⟨b0, b1, b2, b3, b4, b5, b6, true, true, true, B, G', c', rfl, rfl, p2.out, p3.out, p4.out, p5.out, p7.out, p8.out, by simp, f0.out, f1.out⟩
        case done =>
          rintro Lb aR W ⟨j0, j1, j2, j3, j4, j5, j6, j7, j8, j9, B, G', c', rfl, rfl, -, -, -, -, -, -, -, f0, f1⟩ hall
          obtain rfl : j0 = true := hall 0 (by decide)
          obtain rfl : j1 = true := hall 1 (by decide)
          obtain rfl : j2 = true := hall 2 (by decide)
          obtain rfl : j3 = true := hall 3 (by decide)
          obtain rfl : j4 = true := hall 4 (by decide)
          obtain rfl : j5 = true := hall 5 (by decide)
          obtain rfl : j6 = true := hall 6 (by decide)
          obtain rfl : j7 = true := hall 7 (by decide)
          obtain rfl : j8 = true := hall 8 (by decide)
          obtain rfl : j9 = true := hall 9 (by decide)
          clear hall
          obtain ⟨hown2, hB2⟩ := f1 rfl
          have Hown2 := Lib.hid hown2
          have HB2 := Lib.hid hB2
          clear f0 f1 hown2 hB2 hown0 hB0 hsz0
          simp only [cond_true]
          go_wp2_with fail
          go_roundw
          case rel => exact ⟨ls, [], l ++ [x], (if c1 = 1 then some ⟨b, off, none⟩ else some ⟨b, off + 3, none⟩), B1, some ⟨G', 0, none⟩, c1 - 1, c2, c', by rw [hal], rfl, by rw [List.length_append, hl'.out]; rfl, ⟨by omega, by simp⟩, hS1'.out, fun h => absurd rfl h, by rw [← Hml.out]; simp [mergeL_nil], by rw [List.length_append, hl'.out, hfin.out]; exact Hown2.out, HB2.out⟩
          case measure => simp; try omega
      | cons y rs =>
        by_cases hle : x.t ≤ y.t
        · obtain ⟨bo, offo, rfl, hbo, hr2⟩ := HS2.out (by simp)
          obtain ⟨o0, -, -⟩ := hr2 0 y rfl
          simp only [Nat.zero_mul, Nat.add_zero] at o0
          have c2o := (HB.out.cell (p := ⟨bo, offo, none⟩) hbo).trans o0
          have hS2o := Lib.hid HS2.out
          clear hr2 o0
          obtain ⟨b, off, rfl, hb, hr⟩ := HS1.out (by simp)
          obtain ⟨d0, d1, d2⟩ := hr 0 x rfl
          simp only [Nat.zero_mul, Nat.add_zero] at d0 d1 d2
          clear hr
          have c0t := (HB.out.cell (p := ⟨b, off, none⟩) hb).trans d0
          obtain ⟨xsl, hxsl⟩ : ∃ v, snsOf l = v := ⟨_, rfl⟩
          have hfin : Hid (snsOf (l ++ [x]) = xsl ++ [.int .i64 x.t, .int .i64 x.v, .int .i64 x.s]) := by unfold Hid snsOf; rw [List.flatMap_append]; show snsOf l ++ _ = _; rw [hxsl]; rfl
          have hone : Hid (∀ u ∈ [Value.int .i64 x.t, .int .i64 x.v, .int .i64 x.s], u.oneCell' = true) := by
            intro u hu
            simp only [List.mem_cons, List.not_mem_nil, or_false] at hu
            rcases hu with rfl | rfl | rfl <;> rfl
          rw [hxsl] at Hown
          have hSt' : Hid (isS (if c1 = 1 then some ⟨b, off, none⟩ else some ⟨b, off + 3, none⟩) ls w) := by
            unfold Hid
            split
            · intro h
              have := List.length_pos_iff.2 h
              simp only [List.length_cons] at k1
              omega
            · exact isS_tail HS1.out
          simp only [List.length_cons] at *
          generalize hal : ls.length = na at *
          generalize hbl : rs.length = nb at *
          obtain ⟨nl, hl⟩ : ∃ n, l.length = n := ⟨_, rfl⟩
          rw [hl] at Hown ⊢
          have hl' := Lib.hid hl
          have hnlb : nl ≤ 3000 := by omega
          have hs2 : (1 : Int) ≤ (na : Int) + 1 := by omega
          have hq2 : decide ((0 : Int) < (na : Int) + 1) = true := decide_eq_true (by omega)
          have hq1 : (((nb : Nat) : Int) + 1 == 0) = false := by simp; omega
          have hs1 : (1 : Int) ≤ (nb : Int) + 1 := by omega
          have hq0 : decide ((0 : Int) < (na : Int) + 1 + ((nb : Int) + 1)) = true := decide_eq_true (by omega)
          have hcmp : decide (x.t ≤ y.t) = true := decide_eq_true hle
          clear hl hxsl
          go_wp2_with fail
          go_quiet (fail)
          go_wp2_with fail
          rename_i nq
          have hown0 : (wr.drewN nq).ownsRow w.heap.size 85 3 (.slice G nl c) nl xsl := Hown.out
          have hB0 := below_drewN HB.out nq
          have hsz0 := hB0.size
          generalize wr.drewN nq = W0 at *
          refine wp_region_inv (Inv := fun Lb a W => ∃ (b0 b1 b2 b3 b4 b5 b6 b7 b8 b9 : Bool) (B : Nat) (G' : Nat) (c' : Nat), Lb = #[b0, b1, b2, b3, b4, b5, b6, b7, b8, b9] ∧ a = { tmps := #[(bif b9 then .slice (if c1 = 1 then some ⟨b, off, none⟩ else some ⟨b, off + 3, none⟩) na (c1 - 1) else Value.slice (some ⟨b, off, none⟩) (na + 1) c1), Value.slice (some ⟨bo, offo, none⟩) (nb + 1) c2, undef, undef, Value.slice none 0 0, (bif b8 then .slice (some ⟨G', 0, none⟩) (nl + 1) c' else Value.slice G nl c), Value.slice (some ⟨b, off, none⟩) (na + 1) c1, Value.int IntKind.i64 (↑na + 1), Value.slice (some ⟨bo, offo, none⟩) (nb + 1) c2, Value.int IntKind.i64 (↑nb + 1), Value.int IntKind.i64 (↑na + 1 + (↑nb + 1)), Value.bool true, Value.slice (some ⟨bo, offo, none⟩) (nb + 1) c2, Value.int IntKind.i64 (↑nb + 1), Value.bool false, Value.bool false, Value.slice (some ⟨b, off, none⟩) (na + 1) c1, Value.int IntKind.i64 (↑na + 1), Value.bool true, Value.bool true, Value.slice (some ⟨b, off, none⟩) (na + 1) c1, Value.pointer (some ⟨b, off, none⟩), Value.pointer (some ⟨b, off, none⟩), Value.int IntKind.i64 x.t, Value.slice (some ⟨bo, offo, none⟩) (nb + 1) c2, Value.pointer (some ⟨bo, offo, none⟩), Value.pointer (some ⟨bo, offo, none⟩), Value.int IntKind.i64 y.t, Value.bool true, Value.bool true, Value.bool true, (bif b0 then .slice G nl c else u31), (bif b1 then .slice (some ⟨b, off, none⟩) (na + 1) c1 else u32), (bif b2 then .pointer (some ⟨b, off, none⟩) else u33), (bif b3 then .agg #[.int .i64 x.t, .int .i64 x.v, .int .i64 x.s] else u34), (bif b4 then .slice (some ⟨B, 0, none⟩) 1 1 else u35), (bif b5 then .slice (some ⟨G', 0, none⟩) (nl + 1) c' else u36), (bif b6 then .slice (some ⟨b, off, none⟩) (na + 1) c1 else u37), (bif b7 then .slice (if c1 = 1 then some ⟨b, off, none⟩ else some ⟨b, off + 3, none⟩) na (c1 - 1) else u38), u39, u40, u41, u42, u43, u44, u45, u46, undef], defers := [] } ∧ (b2 = true → b1 = true) ∧ (b3 = true → b2 = true) ∧ (b4 = true → b3 = true) ∧ (b5 = true → b0 = true ∧ b4 = true) ∧ (b7 = true → b6 = true) ∧ (b8 = true → b5 = true) ∧ (b9 = true → b7 = true ∧ b8 = true) ∧ (b5 = false → (W.ownsRow w.heap.size 85 3 (.slice G nl c) nl xsl ∧ w.heap.size ≤ W.heap.size ∧ Below w.heap.size w W) ∧ (b4 = true → BoxN W B 85 #[.int .i64 x.t, .int .i64 x.v, .int .i64 x.s])) ∧ (b5 = true → W.ownsRow w.heap.size 85 3 (.slice (some ⟨G', 0, none⟩) (nl + 1) c') (nl + 1) (xsl ++ [.int .i64 x.t, .int .i64 x.v, .int .i64 x.s]) ∧ Below w.heap.size w W)) (by kernel_rfl) (down_of (by decide +kernel)) ?start ?size ?done ?step
          case start => exact ⟨false, false, false, false, false, false, false, false, false, false, 0, 0, 0, rfl, rfl, by simp, by simp, by simp, by simp, by simp, by simp, by simp, fun _ => ⟨⟨hown0.drew, hsz0, hB0.drew⟩, by simp⟩, by simp⟩
          case size =>
            rintro Lb aR W ⟨b0, b1, b2, b3, b4, b5, b6, b7, b8, b9, B, G', c', rfl, -⟩
            rfl
          case step =>
            rintro Lb aR W i o ⟨b0, b1, b2, b3, b4, b5, b6, b7, b8, b9, B, G', c', rfl, rfl, p2, p3, p4, p5, p7, p8, p9, f0, f1⟩ ho hl' hdep
            have hi' : i < 10 := (Array.getElem?_eq_some_iff.1 ho).1
            have hi2 : i = 0 ∨ i = 1 ∨ i = 2 ∨ i = 3 ∨ i = 4 ∨ i = 5 ∨ i = 6 ∨ i = 7 ∨ i = 8 ∨ i = 9 := by omega
            clear hi' hown0 hB0 hsz0
            replace p2 := Lib.hid p2
            replace p3 := Lib.hid p3
            replace p4 := Lib.hid p4
            replace p5 := Lib.hid p5
            replace p7 := Lib.hid p7
            replace p8 := Lib.hid p8
            replace p9 := Lib.hid p9
            replace f0 := Lib.hid f0
            replace f1 := Lib.hid f1
            rcases hi2 with rfl | rfl | rfl | rfl | rfl | rfl | rfl | rfl | rfl | rfl
            · cases ho
              obtain rfl : b0 = false := hl'
              clear hdep
              obtain rfl : b5 = false := by cases b5 with | false => rfl | true => exact absurd (p5.out rfl).1 (by simp)
              obtain rfl : b8 = false := by cases b8 with | false => rfl | true => exact absurd (p8.out rfl) (by simp)
              obtain rfl : b9 = false := by cases b9 with | false => rfl | true => exact absurd (p9.out rfl).2 (by simp)
              refine wpOp_step rfl (fun K hK => ?_)
              go_simp
              refine hK _ _ ?_; clear hK K
              exact ⟨true, b1, b2, b3, b4, false, b6, b7, false, false, B, G', c', rfl, rfl, p2.out, p3.out, p4.out, by simp, p7.out, by simp, by simp, f0.out, f1.out⟩
            · cases ho
              obtain rfl : b1 = false := hl'
              clear hdep
              obtain rfl : b2 = false := by cases b2 with | false => rfl | true => exact absurd (p2.out rfl) (by simp)
              obtain rfl : b3 = false := by cases b3 with | false => rfl | true => exact absurd (p3.out rfl) (by simp)
              obtain rfl : b4 = false := by cases b4 with | false => rfl | true => exact absurd (p4.out rfl) (by simp)
              obtain rfl : b5 = false := by cases b5 with | false => rfl | true => exact absurd (p5.out rfl).2 (by simp)
              obtain rfl : b8 = false := by cases b8 with | false => rfl | true => exact absurd (p8.out rfl) (by simp)
              obtain rfl : b9 = false := by cases b9 with | false => rfl | true => exact absurd (p9.out rfl).2 (by simp)
              refine wpOp_step rfl (fun K hK => ?_)
              go_simp
              refine hK _ _ ?_; clear hK K
              exact ⟨b0, true, false, false, false, false, b6, b7, false, false, B, G', c', rfl, rfl, by simp, by simp, by simp, by simp, p7.out, by simp, by simp, f0.out, f1.out⟩
            · cases ho
              obtain rfl : b2 = false := hl'
              obtain rfl : b1 = true := hdep ⟨1, .data⟩ (by simp) rfl
              clear hdep
              obtain rfl : b3 = false := by cases b3 with | false => rfl | true => exact absurd (p3.out rfl) (by simp)
              obtain rfl : b4 = false := by cases b4 with | false => rfl | true => exact absurd (p4.out rfl) (by simp)
              obtain rfl : b5 = false := by cases b5 with | false => rfl | true => exact absurd (p5.out rfl).2 (by simp)
              obtain rfl : b8 = false := by cases b8 with | false => rfl | true => exact absurd (p8.out rfl) (by simp)
              obtain rfl : b9 = false := by cases b9 with | false => rfl | true => exact absurd (p9.out rfl).2 (by simp)
              refine wpOp_step rfl (fun K hK => ?_)
              simp only [cond_true]
              go_simp
              refine hK _ _ ?_; clear hK K
              exact ⟨b0, true, true, false, false, false, b6, b7, false, false, B, G', c', rfl, rfl, by simp, by simp, by simp, by simp, p7.out, by simp, by simp, f0.out, f1.out⟩
            · cases ho
              obtain rfl : b3 = false := hl'
              obtain rfl : b2 = true := hdep ⟨2, .data⟩ (by simp) rfl
              clear hdep
              obtain rfl : b4 = false := by cases b4 with | false => rfl | true => exact absurd (p4.out rfl) (by simp)
              obtain rfl : b5 = false := by cases b5 with | false => rfl | true => exact absurd (p5.out rfl).2 (by simp)
              obtain rfl : b8 = false := by cases b8 with | false => rfl | true => exact absurd (p8.out rfl) (by simp)
              obtain rfl : b9 = false := by cases b9 with | false => rfl | true => exact absurd (p9.out rfl).2 (by simp)
              have c0 := ((f0.out rfl).1.2.2.cell (p := ⟨b, off, none⟩) hb).trans d0
              have c1' := ((f0.out rfl).1.2.2.cell (p := ⟨b, off + 1, none⟩) hb).trans d1
              have c2' := ((f0.out rfl).1.2.2.cell (p := ⟨b, off + 2, none⟩) hb).trans d2
              refine wpOp_step rfl (fun K hK => ?_)
              simp only [cond_true]
              go_simp
              refine hK _ _ ?_; clear hK K
              exact ⟨b0, b1, true, true, false, false, b6, b7, false, false, B, G', c', rfl, rfl, p2.out, by simp, by simp, by simp, p7.out, by simp, by simp, f0.out, f1.out⟩
            · cases ho
              obtain rfl : b4 = false := hl'
              obtain rfl : b3 = true := hdep ⟨3, .data⟩ (by simp) rfl
              clear hdep
              obtain rfl : b5 = false := by cases b5 with | false => rfl | true => exact absurd (p5.out rfl).2 (by simp)
              obtain rfl : b8 = false := by cases b8 with | false => rfl | true => exact absurd (p8.out rfl) (by simp)
              obtain rfl : b9 = false := by cases b9 with | false => rfl | true => exact absurd (p9.out rfl).2 (by simp)
              obtain ⟨⟨hown, hSl, hBw⟩, -⟩ := f0.out rfl
              have hNew := BoxN.new W 85 #[.int .i64 x.t, .int .i64 x.v, .int .i64 x.s]
              have Hown := Lib.hid hown
              have HBw := Lib.hid hBw
              have HSl := Lib.hid hSl
              clear hown hBw hSl
              refine wpOp_step rfl (fun K hK => ?_)
              simp only [cond_true]
              go_simp
              refine hK _ _ ?_; clear hK K
              exact ⟨b0, b1, b2, true, true, false, b6, b7, false, false, W.heap.size, G', c', rfl, rfl, p2.out, p3.out, by simp, by simp, p7.out, by simp, by simp, fun _ => ⟨⟨Hown.out.alloc _, by rw [World.size_alloc]; exact Nat.le_succ_of_le HSl.out, HBw.out.alloc HBw.out.size _⟩, fun _ => hNew⟩, by simp⟩
            · cases ho
              obtain rfl : b5 = false := hl'
              obtain rfl : b0 = true := hdep ⟨0, .data⟩ (by simp) rfl
              obtain rfl : b4 = true := hdep ⟨4, .data⟩ (by simp) rfl
              clear hdep
              obtain rfl : b8 = false := by cases b8 with | false => rfl | true => exact absurd (p8.out rfl) (by simp)
              obtain rfl : b9 = false := by cases b9 with | false => rfl | true => exact absurd (p9.out rfl).2 (by simp)
              obtain ⟨⟨hown, hSl, hBw⟩, hbN⟩ := f0.out rfl
              have hNews := World.news_of_block (cs := #[.int .i64 x.t, .int .i64 x.v, .int .i64 x.s]) (t := 85) (fr := (0, 0)) (hbN rfl)
              refine wpOp_step rfl (fun K hK => ?_)
              refine step_append_lies _ rfl (.tmp 31) (.tmp 35) 61 rfl w.heap.size 85 i0 _ 3 24 Tryz.underlying61 hi hz0 hz1 hz2 rfl (by decide) (.slice G nl c) nl xsl rfl hown ⟨B, 0, none⟩ 1 1 [.int .i64 x.t, .int .i64 x.v, .int .i64 x.s] rfl rfl hNews hone.out (by decide) (by unfold maxLen; omega) (by omega) hSl _ rfl ?_
              intro G5 c5 w5 hn5 hg5 _ _
              refine hK _ _ ?_; clear hK K
              exact ⟨true, b1, b2, b3, true, true, b6, b7, false, false, B, G5, c5, rfl, rfl, p2.out, p3.out, p4.out, by simp, p7.out, by simp, by simp, by simp, fun _ => ⟨hn5, hBw.grown hg5 hBw.size (fun j e => own_block_le hown e)⟩⟩
            · cases ho
              obtain rfl : b6 = false := hl'
              clear hdep
              obtain rfl : b7 = false := by cases b7 with | false => rfl | true => exact absurd (p7.out rfl) (by simp)
              obtain rfl : b9 = false := by cases b9 with | false => rfl | true => exact absurd (p9.out rfl).1 (by simp)
              refine wpOp_step rfl (fun K hK => ?_)
              go_simp
              refine hK _ _ ?_; clear hK K
              exact ⟨b0, b1, b2, b3, b4, b5, true, false, b8, false, B, G', c', rfl, rfl, p2.out, p3.out, p4.out, p5.out, by simp, p8.out, by simp, f0.out, f1.out⟩
            · cases ho
              obtain rfl : b7 = false := hl'
              obtain rfl : b6 = true := hdep ⟨6, .data⟩ (by simp) rfl
              clear hdep
              obtain rfl : b9 = false := by cases b9 with | false => rfl | true => exact absurd (p9.out rfl).1 (by simp)
              refine wpOp_step rfl (fun K hK => ?_)
              simp only [cond_true]
              go_simp
              refine hK _ _ ?_; clear hK K
              exact ⟨b0, b1, b2, b3, b4, b5, true, true, b8, false, B, G', c', rfl, rfl, p2.out, p3.out, p4.out, p5.out, by simp, p8.out, by simp, f0.out, f1.out⟩
            · cases ho
              obtain rfl : b8 = false := hl'
              obtain rfl : b5 = true := hdep ⟨5, .data⟩ (by simp) rfl
              clear hdep
              obtain rfl : b9 = false := by cases b9 with | false => rfl | true => exact absurd (p9.out rfl).2 (by simp)
              refine wpOp_step rfl (fun K hK => ?_)
              simp only [cond_true]
              go_simp
              refine hK _ _ ?_; clear hK K
              exact ⟨b0, b1, b2, b3, b4, true, b6, b7, true, false, B, G', c', rfl, rfl, p2.out, p3.out, p4.out, p5.out, p7.out, by simp, by simp, f0.out, f1.out⟩
            · cases ho
              obtain rfl : b9 = false := hl'
              obtain rfl : b7 = true := hdep ⟨7, .data⟩ (by simp) rfl
              obtain rfl : b8 = true := hdep ⟨8, .chain⟩ (by simp) rfl
              clear hdep
              refine wpOp_step rfl (fun K hK => ?_)
              simp only [cond_true]
              go_simp
              refine hK _ _ ?_; clear hK K
              exact ⟨b0, b1, b2, b3, b4, b5, b6, true, true, true, B, G', c', rfl, rfl, p2.out, p3.out, p4.out, p5.out, p7.out, p8.out, by simp, f0.out, f1.out⟩
          case done =>
            rintro Lb aR W ⟨j0, j1, j2, j3, j4, j5, j6, j7, j8, j9, B, G', c', rfl, rfl, -, -, -, -, -, -, -, f0, f1⟩ hall
            obtain rfl : j0 = true := hall 0 (by decide)
            obtain rfl : j1 = true := hall 1 (by decide)
            obtain rfl : j2 = true := hall 2 (by decide)
            obtain rfl : j3 = true := hall 3 (by decide)
            obtain rfl : j4 = true := hall 4 (by decide)
            obtain rfl : j5 = true := hall 5 (by decide)
            obtain rfl : j6 = true := hall 6 (by decide)
            obtain rfl : j7 = true := hall 7 (by decide)
            obtain rfl : j8 = true := hall 8 (by decide)
            obtain rfl : j9 = true := hall 9 (by decide)
            clear hall
            obtain ⟨hown2, hB2⟩ := f1 rfl
            have Hown2 := Lib.hid hown2
            have HB2 := Lib.hid hB2
            clear f0 f1 hown2 hB2 hown0 hB0 hsz0
            simp only [cond_true]
            go_wp2_with fail
            go_roundw
            case rel => exact ⟨ls, y :: rs, l ++ [x], (if c1 = 1 then some ⟨b, off, none⟩ else some ⟨b, off + 3, none⟩), some ⟨bo, offo, none⟩, some ⟨G', 0, none⟩, c1 - 1, c2, c', by rw [hal], by rw [List.length_cons, hbl], by rw [List.length_append, hl'.out]; rfl, ⟨by omega, by rw [List.length_cons]; omega⟩, hSt'.out, hS2o.out, by rw [← Hml.out, mergeL.eq_3, if_pos hle]; simp, by rw [List.length_append, hl'.out, hfin.out]; exact Hown2.out, HB2.out⟩
            case measure => simp; try omega
        · obtain ⟨bo, offo, rfl, hbo, hr2⟩ := HS1.out (by simp)
          obtain ⟨o0, -, -⟩ := hr2 0 x rfl
          simp only [Nat.zero_mul, Nat.add_zero] at o0
          have c2o := (HB.out.cell (p := ⟨bo, offo, none⟩) hbo).trans o0
          have hS2o := Lib.hid HS1.out
          clear hr2 o0
          obtain ⟨b, off, rfl, hb, hr⟩ := HS2.out (by simp)
          obtain ⟨d0, d1, d2⟩ := hr 0 y rfl
          simp only [Nat.zero_mul, Nat.add_zero] at d0 d1 d2
          clear hr
          have c0t := (HB.out.cell (p := ⟨b, off, none⟩) hb).trans d0
          obtain ⟨xsl, hxsl⟩ : ∃ v, snsOf l = v := ⟨_, rfl⟩
          have hfin : Hid (snsOf (l ++ [y]) = xsl ++ [.int .i64 y.t, .int .i64 y.v, .int .i64 y.s]) := by unfold Hid snsOf; rw [List.flatMap_append]; show snsOf l ++ _ = _; rw [hxsl]; rfl
          have hone : Hid (∀ u ∈ [Value.int .i64 y.t, .int .i64 y.v, .int .i64 y.s], u.oneCell' = true) := by
            intro u hu
            simp only [List.mem_cons, List.not_mem_nil, or_false] at hu
            rcases hu with rfl | rfl | rfl <;> rfl
          rw [hxsl] at Hown
          have hSt' : Hid (isS (if c2 = 1 then some ⟨b, off, none⟩ else some ⟨b, off + 3, none⟩) rs w) := by
            unfold Hid
            split
            · intro h
              have := List.length_pos_iff.2 h
              simp only [List.length_cons] at k2
              omega
            · exact isS_tail HS2.out
          simp only [List.length_cons] at *
          generalize hal : ls.length = na at *
          generalize hbl : rs.length = nb at *
          obtain ⟨nl, hl⟩ : ∃ n, l.length = n := ⟨_, rfl⟩
          rw [hl] at Hown ⊢
          have hl' := Lib.hid hl
          have hnlb : nl ≤ 3000 := by omega
          have hs2 : (1 : Int) ≤ (na : Int) + 1 := by omega
          have hq2 : decide ((0 : Int) < (na : Int) + 1) = true := decide_eq_true (by omega)
          have hq1 : (((nb : Nat) : Int) + 1 == 0) = false := by simp; omega
          have hs1 : (1 : Int) ≤ (nb : Int) + 1 := by omega
          have hq0 : decide ((0 : Int) < (na : Int) + 1 + ((nb : Int) + 1)) = true := decide_eq_true (by omega)
          have hcmp : decide (x.t ≤ y.t) = false := decide_eq_false hle
          clear hl hxsl
          go_wp2_with fail
          go_quiet (fail)
          go_wp2_with fail
          rename_i nq
          have hown0 : (wr.drewN nq).ownsRow w.heap.size 85 3 (.slice G nl c) nl xsl := Hown.out
          have hB0 := below_drewN HB.out nq
          have hsz0 := hB0.size
          generalize wr.drewN nq = W0 at *
          refine wp_region_inv (Inv := fun Lb a W => ∃ (b0 b1 b2 b3 b4 b5 b6 b7 b8 b9 : Bool) (B : Nat) (G' : Nat) (c' : Nat), Lb = #[b0, b1, b2, b3, b4, b5, b6, b7, b8, b9] ∧ a = { tmps := #[Value.slice (some ⟨bo, offo, none⟩) (na + 1) c1, (bif b9 then .slice (if c2 = 1 then some ⟨b, off, none⟩ else some ⟨b, off + 3, none⟩) nb (c2 - 1) else Value.slice (some ⟨b, off, none⟩) (nb + 1) c2), undef, undef, Value.slice none 0 0, (bif b8 then .slice (some ⟨G', 0, none⟩) (nl + 1) c' else Value.slice G nl c), Value.slice (some ⟨bo, offo, none⟩) (na + 1) c1, Value.int IntKind.i64 (↑na + 1), Value.slice (some ⟨b, off, none⟩) (nb + 1) c2, Value.int IntKind.i64 (↑nb + 1), Value.int IntKind.i64 (↑na + 1 + (↑nb + 1)), Value.bool true, Value.slice (some ⟨b, off, none⟩) (nb + 1) c2, Value.int IntKind.i64 (↑nb + 1), Value.bool false, Value.bool false, Value.slice (some ⟨bo, offo, none⟩) (na + 1) c1, Value.int IntKind.i64 (↑na + 1), Value.bool true, Value.bool true, Value.slice (some ⟨bo, offo, none⟩) (na + 1) c1, Value.pointer (some ⟨bo, offo, none⟩), Value.pointer (some ⟨bo, offo, none⟩), Value.int IntKind.i64 x.t, Value.slice (some ⟨b, off, none⟩) (nb + 1) c2, Value.pointer (some ⟨b, off, none⟩), Value.pointer (some ⟨b, off, none⟩), Value.int IntKind.i64 y.t, Value.bool false, Value.bool false, Value.bool false, u31, u32, u33, u34, u35, u36, u37, u38, (bif b0 then .slice G nl c else u39), (bif b1 then .slice (some ⟨b, off, none⟩) (nb + 1) c2 else u40), (bif b2 then .pointer (some ⟨b, off, none⟩) else u41), (bif b3 then .agg #[.int .i64 y.t, .int .i64 y.v, .int .i64 y.s] else u42), (bif b4 then .slice (some ⟨B, 0, none⟩) 1 1 else u43), (bif b5 then .slice (some ⟨G', 0, none⟩) (nl + 1) c' else u44), (bif b6 then .slice (some ⟨b, off, none⟩) (nb + 1) c2 else u45), (bif b7 then .slice (if c2 = 1 then some ⟨b, off, none⟩ else some ⟨b, off + 3, none⟩) nb (c2 - 1) else u46), undef], defers := [] } ∧ (b2 = true → b1 = true) ∧ (b3 = true → b2 = true) ∧ (b4 = true → b3 = true) ∧ (b5 = true → b0 = true ∧ b4 = true) ∧ (b7 = true → b6 = true) ∧ (b8 = true → b5 = true) ∧ (b9 = true → b7 = true ∧ b8 = true) ∧ (b5 = false → (W.ownsRow w.heap.size 85 3 (.slice G nl c) nl xsl ∧ w.heap.size ≤ W.heap.size ∧ Below w.heap.size w W) ∧ (b4 = true → BoxN W B 85 #[.int .i64 y.t, .int .i64 y.v, .int .i64 y.s])) ∧ (b5 = true → W.ownsRow w.heap.size 85 3 (.slice (some ⟨G', 0, none⟩) (nl + 1) c') (nl + 1) (xsl ++ [.int .i64 y.t, .int .i64 y.v, .int .i64 y.s]) ∧ Below w.heap.size w W)) (by kernel_rfl) (down_of (by decide +kernel)) ?start ?size ?done ?step
          case start => exact ⟨false, false, false, false, false, false, false, false, false, false, 0, 0, 0, rfl, rfl, by simp, by simp, by simp, by simp, by simp, by simp, by simp, fun _ => ⟨⟨hown0.drew, hsz0, hB0.drew⟩, by simp⟩, by simp⟩
          case size =>
            rintro Lb aR W ⟨b0, b1, b2, b3, b4, b5, b6, b7, b8, b9, B, G', c', rfl, -⟩
            rfl
          case step =>
            rintro Lb aR W i o ⟨b0, b1, b2, b3, b4, b5, b6, b7, b8, b9, B, G', c', rfl, rfl, p2, p3, p4, p5, p7, p8, p9, f0, f1⟩ ho hl' hdep
            have hi' : i < 10 := (Array.getElem?_eq_some_iff.1 ho).1
            have hi2 : i = 0 ∨ i = 1 ∨ i = 2 ∨ i = 3 ∨ i = 4 ∨ i = 5 ∨ i = 6 ∨ i = 7 ∨ i = 8 ∨ i = 9 := by omega
            clear hi' hown0 hB0 hsz0
            replace p2 := Lib.hid p2
            replace p3 := Lib.hid p3
            replace p4 := Lib.hid p4
            replace p5 := Lib.hid p5
            replace p7 := Lib.hid p7
            replace p8 := Lib.hid p8
            replace p9 := Lib.hid p9
            replace f0 := Lib.hid f0
            replace f1 := Lib.hid f1
            rcases hi2 with rfl | rfl | rfl | rfl | rfl | rfl | rfl | rfl | rfl | rfl
            · cases ho
              obtain rfl : b0 = false := hl'
              clear hdep
              obtain rfl : b5 = false := by cases b5 with | false => rfl | true => exact absurd (p5.out rfl).1 (by simp)
              obtain rfl : b8 = false := by cases b8 with | false => rfl | true => exact absurd (p8.out rfl) (by simp)
              obtain rfl : b9 = false := by cases b9 with | false => rfl | true => exact absurd (p9.out rfl).2 (by simp)
              refine wpOp_step rfl (fun K hK => ?_)
              go_simp
              refine hK _ _ ?_; clear hK K
              exact ⟨true, b1, b2, b3, b4, false, b6, b7, false, false, B, G', c', rfl, rfl, p2.out, p3.out, p4.out, by simp, p7.out, by simp, by simp, f0.out, f1.out⟩
            · cases ho
              obtain rfl : b1 = false := hl'
              clear hdep
              obtain rfl : b2 = false := by cases b2 with | false => rfl | true => exact absurd (p2.out rfl) (by simp)
              obtain rfl : b3 = false := by cases b3 with | false => rfl | true => exact absurd (p3.out rfl) (by simp)
              obtain rfl : b4 = false := by cases b4 with | false => rfl | true => exact absurd (p4.out rfl) (by simp)
              obtain rfl : b5 = false := by cases b5 with | false => rfl | true => exact absurd (p5.out rfl).2 (by simp)
              obtain rfl : b8 = false := by cases b8 with | false => rfl | true => exact absurd (p8.out rfl) (by simp)
              obtain rfl : b9 = false := by cases b9 with | false => rfl | true => exact absurd (p9.out rfl).2 (by simp)
              refine wpOp_step rfl (fun K hK => ?_)
              go_simp
              refine hK _ _ ?_; clear hK K
              exact ⟨b0, true, false, false, false, false, b6, b7, false, false, B, G', c', rfl, rfl, by simp, by simp, by simp, by simp, p7.out, by simp, by simp, f0.out, f1.out⟩
            · cases ho
              obtain rfl : b2 = false := hl'
              obtain rfl : b1 = true := hdep ⟨1, .data⟩ (by simp) rfl
              clear hdep
              obtain rfl : b3 = false := by cases b3 with | false => rfl | true => exact absurd (p3.out rfl) (by simp)
              obtain rfl : b4 = false := by cases b4 with | false => rfl | true => exact absurd (p4.out rfl) (by simp)
              obtain rfl : b5 = false := by cases b5 with | false => rfl | true => exact absurd (p5.out rfl).2 (by simp)
              obtain rfl : b8 = false := by cases b8 with | false => rfl | true => exact absurd (p8.out rfl) (by simp)
              obtain rfl : b9 = false := by cases b9 with | false => rfl | true => exact absurd (p9.out rfl).2 (by simp)
              refine wpOp_step rfl (fun K hK => ?_)
              simp only [cond_true]
              go_simp
              refine hK _ _ ?_; clear hK K
              exact ⟨b0, true, true, false, false, false, b6, b7, false, false, B, G', c', rfl, rfl, by simp, by simp, by simp, by simp, p7.out, by simp, by simp, f0.out, f1.out⟩
            · cases ho
              obtain rfl : b3 = false := hl'
              obtain rfl : b2 = true := hdep ⟨2, .data⟩ (by simp) rfl
              clear hdep
              obtain rfl : b4 = false := by cases b4 with | false => rfl | true => exact absurd (p4.out rfl) (by simp)
              obtain rfl : b5 = false := by cases b5 with | false => rfl | true => exact absurd (p5.out rfl).2 (by simp)
              obtain rfl : b8 = false := by cases b8 with | false => rfl | true => exact absurd (p8.out rfl) (by simp)
              obtain rfl : b9 = false := by cases b9 with | false => rfl | true => exact absurd (p9.out rfl).2 (by simp)
              have c0 := ((f0.out rfl).1.2.2.cell (p := ⟨b, off, none⟩) hb).trans d0
              have c1' := ((f0.out rfl).1.2.2.cell (p := ⟨b, off + 1, none⟩) hb).trans d1
              have c2' := ((f0.out rfl).1.2.2.cell (p := ⟨b, off + 2, none⟩) hb).trans d2
              refine wpOp_step rfl (fun K hK => ?_)
              simp only [cond_true]
              go_simp
              refine hK _ _ ?_; clear hK K
              exact ⟨b0, b1, true, true, false, false, b6, b7, false, false, B, G', c', rfl, rfl, p2.out, by simp, by simp, by simp, p7.out, by simp, by simp, f0.out, f1.out⟩
            · cases ho
              obtain rfl : b4 = false := hl'
              obtain rfl : b3 = true := hdep ⟨3, .data⟩ (by simp) rfl
              clear hdep
              obtain rfl : b5 = false := by cases b5 with | false => rfl | true => exact absurd (p5.out rfl).2 (by simp)
              obtain rfl : b8 = false := by cases b8 with | false => rfl | true => exact absurd (p8.out rfl) (by simp)
              obtain rfl : b9 = false := by cases b9 with | false => rfl | true => exact absurd (p9.out rfl).2 (by simp)
              obtain ⟨⟨hown, hSl, hBw⟩, -⟩ := f0.out rfl
              have hNew := BoxN.new W 85 #[.int .i64 y.t, .int .i64 y.v, .int .i64 y.s]
              have Hown := Lib.hid hown
              have HBw := Lib.hid hBw
              have HSl := Lib.hid hSl
              clear hown hBw hSl
              refine wpOp_step rfl (fun K hK => ?_)
              simp only [cond_true]
              go_simp
              refine hK _ _ ?_; clear hK K
              exact ⟨b0, b1, b2, true, true, false, b6, b7, false, false, W.heap.size, G', c', rfl, rfl, p2.out, p3.out, by simp, by simp, p7.out, by simp, by simp, fun _ => ⟨⟨Hown.out.alloc _, by rw [World.size_alloc]; exact Nat.le_succ_of_le HSl.out, HBw.out.alloc HBw.out.size _⟩, fun _ => hNew⟩, by simp⟩
            · cases ho
              obtain rfl : b5 = false := hl'
              obtain rfl : b0 = true := hdep ⟨0, .data⟩ (by simp) rfl
              obtain rfl : b4 = true := hdep ⟨4, .data⟩ (by simp) rfl
              clear hdep
              obtain rfl : b8 = false := by cases b8 with | false => rfl | true => exact absurd (p8.out rfl) (by simp)
              obtain rfl : b9 = false := by cases b9 with | false => rfl | true => exact absurd (p9.out rfl).2 (by simp)
              obtain ⟨⟨hown, hSl, hBw⟩, hbN⟩ := f0.out rfl
              have hNews := World.news_of_block (cs := #[.int .i64 y.t, .int .i64 y.v, .int .i64 y.s]) (t := 85) (fr := (0, 0)) (hbN rfl)
              refine wpOp_step rfl (fun K hK => ?_)
              refine step_append_lies _ rfl (.tmp 39) (.tmp 43) 61 rfl w.heap.size 85 i0 _ 3 24 Tryz.underlying61 hi hz0 hz1 hz2 rfl (by decide) (.slice G nl c) nl xsl rfl hown ⟨B, 0, none⟩ 1 1 [.int .i64 y.t, .int .i64 y.v, .int .i64 y.s] rfl rfl hNews hone.out (by decide) (by unfold maxLen; omega) (by omega) hSl _ rfl ?_
              intro G5 c5 w5 hn5 hg5 _ _
              refine hK _ _ ?_; clear hK K
              exact ⟨true, b1, b2, b3, true, true, b6, b7, false, false, B, G5, c5, rfl, rfl, p2.out, p3.out, p4.out, by simp, p7.out, by simp, by simp, by simp, fun _ => ⟨hn5, hBw.grown hg5 hBw.size (fun j e => own_block_le hown e)⟩⟩
            · cases ho
              obtain rfl : b6 = false := hl'
              clear hdep
              obtain rfl : b7 = false := by cases b7 with | false => rfl | true => exact absurd (p7.out rfl) (by simp)
              obtain rfl : b9 = false := by cases b9 with | false => rfl | true => exact absurd (p9.out rfl).1 (by simp)
              refine wpOp_step rfl (fun K hK => ?_)
              go_simp
              refine hK _ _ ?_; clear hK K
              exact ⟨b0, b1, b2, b3, b4, b5, true, false, b8, false, B, G', c', rfl, rfl, p2.out, p3.out, p4.out, p5.out, by simp, p8.out, by simp, f0.out, f1.out⟩
            · cases ho
              obtain rfl : b7 = false := hl'
              obtain rfl : b6 = true := hdep ⟨6, .data⟩ (by simp) rfl
              clear hdep
              obtain rfl : b9 = false := by cases b9 with | false => rfl | true => exact absurd (p9.out rfl).1 (by simp)
              refine wpOp_step rfl (fun K hK => ?_)
              simp only [cond_true]
              go_simp
              refine hK _ _ ?_; clear hK K
              exact ⟨b0, b1, b2, b3, b4, b5, true, true, b8, false, B, G', c', rfl, rfl, p2.out, p3.out, p4.out, p5.out, by simp, p8.out, by simp, f0.out, f1.out⟩
            · cases ho
              obtain rfl : b8 = false := hl'
              obtain rfl : b5 = true := hdep ⟨5, .data⟩ (by simp) rfl
              clear hdep
              obtain rfl : b9 = false := by cases b9 with | false => rfl | true => exact absurd (p9.out rfl).2 (by simp)
              refine wpOp_step rfl (fun K hK => ?_)
              simp only [cond_true]
              go_simp
              refine hK _ _ ?_; clear hK K
              exact ⟨b0, b1, b2, b3, b4, true, b6, b7, true, false, B, G', c', rfl, rfl, p2.out, p3.out, p4.out, p5.out, p7.out, by simp, by simp, f0.out, f1.out⟩
            · cases ho
              obtain rfl : b9 = false := hl'
              obtain rfl : b7 = true := hdep ⟨7, .data⟩ (by simp) rfl
              obtain rfl : b8 = true := hdep ⟨8, .chain⟩ (by simp) rfl
              clear hdep
              refine wpOp_step rfl (fun K hK => ?_)
              simp only [cond_true]
              go_simp
              refine hK _ _ ?_; clear hK K
              exact ⟨b0, b1, b2, b3, b4, b5, b6, true, true, true, B, G', c', rfl, rfl, p2.out, p3.out, p4.out, p5.out, p7.out, p8.out, by simp, f0.out, f1.out⟩
          case done =>
            rintro Lb aR W ⟨j0, j1, j2, j3, j4, j5, j6, j7, j8, j9, B, G', c', rfl, rfl, -, -, -, -, -, -, -, f0, f1⟩ hall
            obtain rfl : j0 = true := hall 0 (by decide)
            obtain rfl : j1 = true := hall 1 (by decide)
            obtain rfl : j2 = true := hall 2 (by decide)
            obtain rfl : j3 = true := hall 3 (by decide)
            obtain rfl : j4 = true := hall 4 (by decide)
            obtain rfl : j5 = true := hall 5 (by decide)
            obtain rfl : j6 = true := hall 6 (by decide)
            obtain rfl : j7 = true := hall 7 (by decide)
            obtain rfl : j8 = true := hall 8 (by decide)
            obtain rfl : j9 = true := hall 9 (by decide)
            clear hall
            obtain ⟨hown2, hB2⟩ := f1 rfl
            have Hown2 := Lib.hid hown2
            have HB2 := Lib.hid hB2
            clear f0 f1 hown2 hB2 hown0 hB0 hsz0
            simp only [cond_true]
            go_wp2_with fail
            go_roundw
            case rel => exact ⟨x :: ls, rs, l ++ [y], some ⟨bo, offo, none⟩, (if c2 = 1 then some ⟨b, off, none⟩ else some ⟨b, off + 3, none⟩), some ⟨G', 0, none⟩, c1, c2 - 1, c', by rw [List.length_cons, hal], by rw [hbl], by rw [List.length_append, hl'.out]; rfl, ⟨by rw [List.length_cons]; omega, by omega⟩, hS2o.out, hSt'.out, by rw [← Hml.out, mergeL.eq_3, if_neg (show ¬ x.t ≤ y.t by omega)]; simp, by rw [List.length_append, hl'.out, hfin.out]; exact Hown2.out, HB2.out⟩
            case measure => simp; try omega
end Go.Proofs.YtbncfknjgldcbaaGreat.Mx
