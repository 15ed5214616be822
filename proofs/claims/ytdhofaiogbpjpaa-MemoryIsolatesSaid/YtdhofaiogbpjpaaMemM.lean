/- The mathematics of layouts: regions, their ends, validity, translation and owner. -/
import Derived.Test.YtdhofaiogbpjpaaProg
import Derived.IntWalk
namespace Go.Proofs.Ytdhofaiogbpjpaa
open Go.RowKit
namespace Me
/-- A region, whatever its numbers. -/
structure Rg where
  p : Int
  b : Int
  s : Int
deriving DecidableEq, Inhabited

/-- May a memory have so many bytes? -/
def szOk (z : Int) : Bool := decide (0 ≤ z) && decide (z ≤ 4096)
def up8 (e : Nat) : Nat := (e + 7) / 8 * 8
/-- Where the region before index k ends. -/
def endA (ns : List Nat) : Nat → Nat
  | 0 => 0
  | k + 1 => up8 (endA ns k) + ns.getD k 0
def regA (ns : List Nat) (j : Nat) : Rg := ⟨j, up8 (endA ns j), ns.getD j 0⟩
def layA (ns : List Nat) (k : Nat) : List Rg := (List.range k).map (regA ns)
def modOk (mem : Int) (zs : List Int) : Bool := szOk mem && (decide (zs.length ≤ 6) && zs.all szOk)
/-- What Layout answers. -/
def layR (mem : Int) (zs : List Int) : List Rg × Int :=
  if modOk mem zs = true then
    if mem < endA (zs.map Int.toNat) zs.length then ([], 4) else (layA (zs.map Int.toNat) zs.length, 0)
  else ([], 2)

theorem layA_len (ns : List Nat) (k : Nat) : (layA ns k).length = k := by simp [layA]
theorem layA_succ (ns : List Nat) (k : Nat) : layA ns (k + 1) = layA ns k ++ [regA ns k] := by simp [layA, List.range_succ]
theorem layA_get (ns : List Nat) (k j : Nat) (h : j < k) : (layA ns k)[j]? = some (regA ns j) := by simp [layA, h]
theorem up8_le (e : Nat) : e ≤ up8 e ∧ up8 e ≤ e + 7 ∧ up8 e % 8 = 0 := by unfold up8; omega
theorem endA_le (ns : List Nat) (h : ∀ n ∈ ns, n ≤ 4096) : ∀ k, endA ns k ≤ k * 4103
  | 0 => Nat.le_refl _
  | k + 1 => by
    have ih := endA_le ns h k
    have h1 := up8_le (endA ns k)
    have h2 : ns.getD k 0 ≤ 4096 := by
      rw [List.getD_eq_getElem?_getD]
      cases hk : ns[k]? with
      | none => simp
      | some n => simpa using h n (List.mem_of_getElem? hk)
    simp only [endA]
    omega
theorem endA_mono (ns : List Nat) : ∀ d k, endA ns k ≤ endA ns (k + d)
  | 0, k => Nat.le_refl _
  | d + 1, k => by
    have ih := endA_mono ns d k
    have h1 := up8_le (endA ns (k + d))
    rw [← Nat.add_assoc]
    simp only [endA]
    omega
/-- A region ends before the next ones begin. -/
theorem endA_next (ns : List Nat) (i j : Nat) (h : i < j) : up8 (endA ns i) + ns.getD i 0 ≤ endA ns j := by
  have := endA_mono ns (j - (i + 1)) (i + 1)
  rw [show i + 1 + (j - (i + 1)) = j by omega] at this
  exact this

/-! ### Translation and owner -/
def inR (at' : Int) (r : Rg) : Bool := decide (r.b ≤ at') && decide (at' < wrap64 (r.b + r.s))
def trR (l : List Rg) (part addr : Int) : Int × Int :=
  match l.find? (fun r => r.p == part) with
  | none => (0, 6)
  | some r => if addr < 0 ∨ r.s ≤ addr then (0, 110) else (wrap64 (r.b + addr), 0)
def owR (l : List Rg) (at' : Int) : Int × Int × Bool :=
  match l.find? (inR at') with
  | none => (0, 0, false)
  | some r => (r.p, wrap64 (at' - r.b), true)

/-! ### Valid regions -/
def fitR (mem : Int) (r : Rg) : Bool := decide (0 ≤ r.b) && (decide (r.b % 8 = 0) && (decide (0 ≤ r.s) && decide (r.s ≤ mem - r.b)))
def ovR (a r : Rg) : Bool := decide (max a.b r.b < min (a.b + a.s) (r.b + r.s))
/-- The regions before k are in order, fit, and none overlaps an earlier one. -/
def vldK (l : List Rg) (mem : Int) (k : Nat) : Prop := ∀ (i : Nat) (r : Rg), i < k → l[i]? = some r → r.p = i ∧ fitR mem r = true ∧ ∀ (j : Nat) (q : Rg), j < i → l[j]? = some q → ovR q r = false
def Vld (l : List Rg) (mem : Int) : Prop := szOk mem = true ∧ l.length ≤ 6 ∧ vldK l mem l.length
open Classical in
noncomputable def vldR (l : List Rg) (mem : Int) : Bool := decide (Vld l mem)
theorem vldK_succ {l : List Rg} {mem : Int} {k : Nat} {r : Rg} (h : vldK l mem k) (hr : l[k]? = some r) (hp : r.p = k) (hf : fitR mem r = true) (ho : ∀ (j : Nat) (q : Rg), j < k → l[j]? = some q → ovR q r = false) : vldK l mem (k + 1) := fun i x hi hx => by
  rcases Nat.lt_succ_iff_lt_or_eq.1 hi with h1 | rfl
  · exact h i x h1 hx
  · rw [hr] at hx; cases hx; exact ⟨hp, hf, ho⟩
theorem fitR_iff {mem : Int} {r : Rg} : fitR mem r = true ↔ 0 ≤ r.b ∧ r.b % 8 = 0 ∧ 0 ≤ r.s ∧ r.s ≤ mem - r.b := by
  unfold fitR; simp

/-- Two of them that a property holds for. -/
theorem two_of_count {α : Type} (p : α → Bool) : ∀ l : List α, 2 ≤ l.countP p → ∃ (i j : Nat) (x y : α), i < j ∧ l[i]? = some x ∧ l[j]? = some y ∧ p x = true ∧ p y = true
  | [], h => by simp at h
  | x :: l, h => by
    by_cases hx : p x = true
    · rw [List.countP_cons_of_pos hx] at h
      have : 0 < l.countP p := by omega
      obtain ⟨y, hy, hpy⟩ := List.countP_pos_iff.1 this
      obtain ⟨j, hj⟩ := List.getElem?_of_mem hy
      exact ⟨0, j + 1, x, y, by omega, rfl, by simpa using hj, hx, hpy⟩
    · rw [List.countP_cons_of_neg hx] at h
      obtain ⟨i, j, a, b, hij, h1, h2, h3, h4⟩ := two_of_count p l h
      exact ⟨i + 1, j + 1, a, b, by omega, by simpa using h1, by simpa using h2, h3, h4⟩
theorem count_of_two {α : Type} (p : α → Bool) : ∀ (l : List α) (i j : Nat) (x y : α), i < j → l[i]? = some x → l[j]? = some y → p x = true → p y = true → 2 ≤ l.countP p
  | [], i, j, x, y, _, h, _, _, _ => by simp at h
  | z :: l, 0, j + 1, x, y, _, h1, h2, h3, h4 => by
    simp only [List.getElem?_cons_zero, Option.some.injEq] at h1
    subst h1
    rw [List.countP_cons_of_pos h3]
    have : 0 < l.countP p := List.countP_pos_iff.2 ⟨y, List.mem_of_getElem? (by simpa using h2), h4⟩
    omega
  | z :: l, i + 1, j + 1, x, y, hij, h1, h2, h3, h4 => by
    have := count_of_two p l i j x y (by omega) (by simpa using h1) (by simpa using h2) h3 h4
    rw [List.countP_cons]; omega
  | z :: l, 0, 0, x, y, hij, _, _, _, _ => by omega
  | z :: l, i + 1, 0, x, y, hij, _, _, _, _ => by omega
/-- What the reference asks of a region. -/
def refR (mem : Int) (r : Rg) : Prop := 0 ≤ r.b ∧ r.b ≤ 4096 ∧ r.b % 8 = 0 ∧ 0 ≤ r.s ∧ r.s ≤ 4096 ∧ r.b + r.s ≤ mem
theorem refR_iff {mem : Int} (hm : szOk mem = true) (r : Rg) : refR mem r ↔ fitR mem r = true := by
  rw [fitR_iff]; unfold refR
  unfold szOk at hm; simp at hm
  constructor <;> (intro h; refine ⟨?_, ?_, ?_, ?_⟩) <;> omega
theorem inR_small {mem : Int} (hm : szOk mem = true) {r : Rg} (h : fitR mem r = true) (at' : Int) : inR at' r = true ↔ r.b ≤ at' ∧ at' < r.b + r.s := by
  rw [fitR_iff] at h
  unfold szOk at hm; simp at hm
  have hw : wrap64 (r.b + r.s) = r.b + r.s := by unfold wrap64; omega
  unfold inR; rw [hw]; simp
/-- THE TWO WAYS OF SAYING THAT NO NUMBER LIES IN TWO REGIONS. -/
theorem vld_iff {l : List Rg} {mem : Int} : Vld l mem ↔ szOk mem = true ∧ l.length ≤ 6 ∧ (∀ (i : Nat) (r : Rg), l[i]? = some r → r.p = i ∧ refR mem r) ∧ ∀ at' : Nat, (at' : Int) < mem → l.countP (inR at') ≤ 1 := by
  constructor
  · rintro ⟨hm, hl, hv⟩
    have hv' : ∀ (i : Nat) (r : Rg), l[i]? = some r → r.p = i ∧ fitR mem r = true ∧ ∀ (j : Nat) (q : Rg), j < i → l[j]? = some q → ovR q r = false := fun i r hr => hv i r (List.getElem?_eq_some_iff.1 hr).1 hr
    refine ⟨hm, hl, fun i r hr => ⟨(hv' i r hr).1, (refR_iff hm r).2 (hv' i r hr).2.1⟩, fun at' hat => ?_⟩
    rcases Nat.lt_or_ge 1 (l.countP (inR at')) with h | h
    · obtain ⟨i, j, x, y, hij, hx, hy, h1, h2⟩ := two_of_count _ l h
      have e := (hv' j y hy).2.2 i x hij hx
      rw [inR_small hm (hv' i x hx).2.1] at h1
      rw [inR_small hm (hv' j y hy).2.1] at h2
      unfold ovR at e; simp at e; omega
    · exact h
  · rintro ⟨hm, hl, hr, hc⟩
    refine ⟨hm, hl, fun i r hi h => ⟨(hr i r h).1, (refR_iff hm r).1 (hr i r h).2, fun j q hj hq => ?_⟩⟩
    have f1 := (refR_iff hm r).1 (hr i r h).2
    have f2 := (refR_iff hm q).1 (hr j q hq).2
    cases ho : ovR q r with
    | false => rfl
    | true =>
      unfold ovR at ho; simp at ho
      have g1 := fitR_iff.1 f1
      have g2 := fitR_iff.1 f2
      have hat : ((max q.b r.b).toNat : Int) = max q.b r.b := by omega
      have := hc (max q.b r.b).toNat (by omega)
      have h2 := count_of_two (inR ((max q.b r.b).toNat : Nat)) l j i q r hj hq h ((inR_small hm f2 _).2 (by omega)) ((inR_small hm f1 _).2 (by omega))
      omega

/-! ### The layout of a module is valid -/
theorem modOk_iff {mem : Int} {zs : List Int} : modOk mem zs = true ↔ szOk mem = true ∧ zs.length ≤ 6 ∧ ∀ z ∈ zs, 0 ≤ z ∧ z ≤ 4096 := by
  unfold modOk szOk; simp
theorem toNat_le {zs : List Int} (h : ∀ z ∈ zs, 0 ≤ z ∧ z ≤ 4096) : ∀ n ∈ zs.map Int.toNat, n ≤ 4096 := by
  intro n hn
  obtain ⟨z, hz, rfl⟩ := List.mem_map.1 hn
  have := h z hz
  omega
theorem toNat_get {zs : List Int} (h : ∀ z ∈ zs, 0 ≤ z ∧ z ≤ 4096) {k : Nat} {z : Int} (hk : zs[k]? = some z) : ((zs.map Int.toNat).getD k 0 : Int) = z := by
  have := h z (List.mem_of_getElem? hk)
  rw [List.getD_eq_getElem?_getD, List.getElem?_map, hk]
  simp; omega
theorem lay_vld {mem : Int} {ns : List Nat} {k : Nat} (hm : szOk mem = true) (hk : k ≤ 6) (he : (endA ns k : Int) ≤ mem) : Vld (layA ns k) mem := by
  refine ⟨hm, by rw [layA_len]; exact hk, fun i r hi hr => ?_⟩
  rw [layA_len] at hi
  rw [layA_get ns k i hi] at hr
  cases hr
  have h1 := endA_next ns i k hi
  have h2 := up8_le (endA ns i)
  refine ⟨rfl, fitR_iff.2 ⟨by simp [regA], by simp only [regA]; omega, by simp [regA], by simp only [regA]; omega⟩, fun j q hj hq => ?_⟩
  rw [layA_get ns k j (by omega)] at hq
  cases hq
  have h3 := endA_next ns j i hj
  unfold ovR regA
  simp only [decide_eq_false_iff_not]
  omega
end Me
end Go.Proofs.Ytdhofaiogbpjpaa
