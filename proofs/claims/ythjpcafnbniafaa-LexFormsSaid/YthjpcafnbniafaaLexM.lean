/- The tokens of a source: plain mathematics. -/
import Derived.Test.YthjpcafnbniafaaProg
namespace Go.Proofs.Ythjpcafnbniafaa

def isBlank (c : BitVec 8) : Bool := c == 32#8 || c == 9#8 || c == 10#8 || c == 13#8
def isLet (c : BitVec 8) : Bool := decide (97 ≤ c.toNat ∧ c.toNat ≤ 122) || decide (65 ≤ c.toNat ∧ c.toNat ≤ 90)
def isDig (c : BitVec 8) : Bool := decide (48 ≤ c.toNat ∧ c.toNat ≤ 57)
def isSgn (c : BitVec 8) : Bool := c == 123#8 || c == 125#8 || c == 59#8 || c == 44#8 || c == 46#8 || c == 58#8
def isIn (c : BitVec 8) : Bool := isLet c || isDig c || c == 95#8
def notNl (c : BitVec 8) : Bool := c != 10#8

/-- How many bytes at the beginning are of a class. -/
def cnt (p : BitVec 8 → Bool) : List (BitVec 8) → Nat
  | [] => 0
  | c :: t => if p c then cnt p t + 1 else 0
theorem cnt_le (p : BitVec 8 → Bool) : ∀ l : List (BitVec 8), cnt p l ≤ l.length
  | [] => Nat.le_refl _
  | c :: t => by
    have := cnt_le p t
    unfold cnt; split <;> simp <;> omega
theorem cnt_yes {p : BitVec 8 → Bool} {c : BitVec 8} {t : List (BitVec 8)} (h : p c = true) : cnt p (c :: t) = cnt p t + 1 := by rw [cnt, if_pos h]
theorem cnt_no {p : BitVec 8 → Bool} {c : BitVec 8} {t : List (BitVec 8)} (h : p c = false) : cnt p (c :: t) = 0 := by rw [cnt, if_neg (by simp [h])]
theorem drop_at {α : Type} {l : List α} {k : Nat} {c : α} (h : l[k]? = some c) : l.drop k = c :: l.drop (k + 1) := by
  obtain ⟨hlt, he⟩ := List.getElem?_eq_some_iff.1 h
  rw [List.drop_eq_getElem_cons hlt, he]
theorem cnt_at_yes {p : BitVec 8 → Bool} {l : List (BitVec 8)} {k : Nat} {c : BitVec 8} (h : l[k]? = some c) (hp : p c = true) : k + cnt p (l.drop k) = k + 1 + cnt p (l.drop (k + 1)) := by
  rw [drop_at h, cnt_yes hp]; omega
theorem cnt_at_no {p : BitVec 8 → Bool} {l : List (BitVec 8)} {k : Nat} {c : BitVec 8} (h : l[k]? = some c) (hp : p c = false) : cnt p (l.drop k) = 0 := by
  rw [drop_at h, cnt_no hp]
theorem cnt_end {p : BitVec 8 → Bool} {l : List (BitVec 8)} {k : Nat} (h : l.length ≤ k) : cnt p (l.drop k) = 0 := by
  rw [List.drop_eq_nil_of_le h]; rfl
theorem cnt_stop (p : BitVec 8 → Bool) : ∀ l : List (BitVec 8), ∀ c t, l.drop (cnt p l) = c :: t → p c = false
  | [], c, t, h => by simp at h
  | d :: l, c, t, h => by
    cases hd : p d with
    | true => rw [cnt_yes hd] at h; exact cnt_stop p l c t h
    | false => rw [cnt_no hd] at h; cases h; exact hd
theorem cnt_all {p : BitVec 8 → Bool} : ∀ (l : List (BitVec 8)), ∀ c ∈ l.take (cnt p l), p c = true
  | [], c, h => by simp at h
  | d :: l, c, h => by
    cases hd : p d with
    | true =>
      rw [cnt_yes hd, List.take_succ_cons, List.mem_cons] at h
      rcases h with rfl | h
      · exact hd
      · exact cnt_all l c h
    | false => rw [cnt_no hd] at h; simp at h
theorem cnt_app {p : BitVec 8 → Bool} : ∀ {r u : List (BitVec 8)}, (∀ c ∈ r, p c = true) → (∀ c t, u = c :: t → p c = false) → cnt p (r ++ u) = r.length
  | [], u, _, hu => by
    cases u with
    | nil => rfl
    | cons c t => exact cnt_no (hu c t rfl)
  | d :: r, u, hr, hu => by
    rw [List.cons_append, cnt_yes (hr d (List.mem_cons_self ..)), cnt_app (fun c h => hr c (List.mem_cons_of_mem _ h)) hu]; rfl

/-- How many bytes at the beginning are blanks and comments (b: within a comment). -/
def skp : Bool → List (BitVec 8) → Nat
  | _, [] => 0
  | false, c :: t => if isBlank c then skp false t + 1 else if c == 35#8 then skp true t + 1 else 0
  | true, c :: t => skp (notNl c) t + 1
theorem skp_le : ∀ b l, skp b l ≤ l.length
  | _, [] => by simp [skp]
  | false, c :: t => by
    have h1 := skp_le false t
    have h2 := skp_le true t
    unfold skp; split
    · simp; omega
    · split <;> simp <;> omega
  | true, c :: t => by
    have h1 := skp_le (notNl c) t
    unfold skp; simp; omega
theorem skp_blank {c : BitVec 8} {t : List (BitVec 8)} (h : isBlank c = true) : skp false (c :: t) = skp false t + 1 := by rw [skp, if_pos h]
theorem skp_hash' {t : List (BitVec 8)} : skp false (35#8 :: t) = skp true t + 1 := by rw [skp, if_neg (by decide), if_pos (by decide)]
theorem skp_none {c : BitVec 8} {t : List (BitVec 8)} (h : isBlank c = false) (h2 : c ≠ 35#8) : skp false (c :: t) = 0 := by rw [skp, if_neg (by simp [h]), if_neg (by simpa using h2)]
theorem skp_cnt : ∀ l, skp false l = cnt isBlank l + skp false (l.drop (cnt isBlank l))
  | [] => rfl
  | c :: t => by
    cases h : isBlank c with
    | true => rw [skp_blank h, cnt_yes h, List.drop_succ_cons, skp_cnt t]; rw [← skp_cnt t]; have := skp_cnt t; omega
    | false => rw [cnt_no h]; simp
theorem skp_true : ∀ t, skp true t = cnt notNl t + skp false (t.drop (cnt notNl t))
  | [] => rfl
  | c :: t => by
    cases h : notNl c with
    | true => rw [cnt_yes h, List.drop_succ_cons, skp, h]; have := skp_true t; omega
    | false =>
      have hc : c = 10#8 := by simpa [notNl] using h
      rw [cnt_no h, skp, h]
      subst hc
      rw [List.drop_zero, skp_blank (by decide)]; omega
theorem skp_hash (t : List (BitVec 8)) : skp false (35#8 :: t) = cnt notNl (35#8 :: t) + skp false ((35#8 :: t).drop (cnt notNl (35#8 :: t))) := by
  rw [skp_hash', cnt_yes (by decide), List.drop_succ_cons]
  have := skp_true t; omega
/-- What comes after blanks and comments. -/
theorem skp_stop : ∀ (b : Bool) (l : List (BitVec 8)), ∀ c t, l.drop (skp b l) = c :: t → isBlank c = false ∧ c ≠ 35#8
  | _, [], c, t, h => by simp at h
  | false, d :: l, c, t, h => by
    cases hd : isBlank d with
    | true => rw [skp_blank hd] at h; exact skp_stop false l c t h
    | false =>
      by_cases h3 : d = 35#8
      · subst h3; rw [skp_hash'] at h; exact skp_stop true l c t h
      · rw [skp_none hd h3] at h; cases h; exact ⟨hd, h3⟩
  | true, d :: l, c, t, h => by rw [skp] at h; exact skp_stop (notNl d) l c t h

/-- A token: its kind (0 for a byte with which none begins), its bytes, its offset. -/
structure Tk where
  k : Nat
  s : List (BitVec 8)
  o : Nat
deriving DecidableEq
def kd (c : BitVec 8) : Nat := if isLet c then 1 else if isDig c then 2 else if isSgn c then 3 else 0
def more (c : BitVec 8) (t : List (BitVec 8)) : Nat := if isLet c || isDig c then cnt isIn t else 0
theorem more_le (c : BitVec 8) (t : List (BitVec 8)) : more c t ≤ t.length := by
  unfold more; split
  · exact cnt_le _ _
  · omega
def scanF : Nat → Nat → List (BitVec 8) → List Tk
  | 0, _, _ => []
  | n + 1, p, l => match l.drop (skp false l) with
    | [] => []
    | c :: t => ⟨kd c, c :: t.take (more c t), p + skp false l⟩ :: scanF n (p + skp false l + 1 + more c t) (t.drop (more c t))
theorem scanF_more : ∀ (n m p : Nat) (l : List (BitVec 8)), l.length ≤ n → l.length ≤ m → scanF n p l = scanF m p l
  | 0, m, p, l, h, _ => by
    have : l = [] := List.eq_nil_of_length_eq_zero (by omega)
    subst this
    cases m <;> rfl
  | n + 1, 0, p, l, _, h => by
    have : l = [] := List.eq_nil_of_length_eq_zero (by omega)
    subst this; rfl
  | n + 1, m + 1, p, l, h1, h2 => by
    unfold scanF
    split
    · rfl
    · rename_i c t he
      have hlen : (l.drop (skp false l)).length = t.length + 1 := by rw [he]; rfl
      rw [List.length_drop] at hlen
      rw [scanF_more n m _ _ (by rw [List.length_drop]; omega) (by rw [List.length_drop]; omega)]
def scan (p : Nat) (l : List (BitVec 8)) : List Tk := scanF l.length p l
theorem scan_end {p : Nat} {l : List (BitVec 8)} (h : l.drop (skp false l) = []) : scan p l = [] := by
  unfold scan
  cases hl : l.length with
  | zero => rfl
  | succ n => unfold scanF; rw [h]
theorem scan_cons {p : Nat} {l : List (BitVec 8)} {c : BitVec 8} {t : List (BitVec 8)} (h : l.drop (skp false l) = c :: t) :
    scan p l = ⟨kd c, c :: t.take (more c t), p + skp false l⟩ :: scan (p + skp false l + 1 + more c t) (t.drop (more c t)) := by
  have hlen : (l.drop (skp false l)).length = t.length + 1 := by rw [h]; rfl
  rw [List.length_drop] at hlen
  unfold scan
  cases hl : l.length with
  | zero => omega
  | succ n =>
    conv => lhs; unfold scanF
    rw [h]
    dsimp only
    rw [scanF_more n _ _ _ (by rw [List.length_drop]; omega) (Nat.le_refl _)]

/-- The form of a number. -/
def numF : Nat → List (BitVec 8) → Bool
  | _, [] => true
  | v, c :: t => isDig c && (decide (10 * v + (c.toNat - 48) ≤ 1073741824) && numF (10 * v + (c.toNat - 48)) t)
def numOk (s : List (BitVec 8)) : Bool := !(s.head? == some 48#8 && decide (1 < s.length)) && numF 0 s
/-- The error of a token. -/
def tokE (t : Tk) : Nat := if t.k = 0 then 70 else if t.k = 1 ∧ 24 < t.s.length then 71 else if t.k = 2 ∧ numOk t.s = false then 72 else 0
def bad (t : Tk) : Bool := tokE t != 0
/-- What Lex answers: the tokens, or the offset and the error. -/
def lexT (l : List (BitVec 8)) : List Tk := if 65536 < l.length ∨ (scan 0 l).any bad then [] else scan 0 l
def lexO (l : List (BitVec 8)) : Nat := if 65536 < l.length then 0 else match (scan 0 l).find? bad with | some t => t.o | none => 0
def lexE (l : List (BitVec 8)) : Nat := if 65536 < l.length then 3 else match (scan 0 l).find? bad with | some t => tokE t | none => 0
end Go.Proofs.Ythjpcafnbniafaa
