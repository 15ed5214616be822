/- Merged texts: CFr, CServe, CSum, CTotal, CIdx. -/
import Derived.Test.YtbncfknjgldcbaaGreatM7
import Derived.IntWalk
import Derived.Test.YtbncfknjgldcbaaGreatM4
/- Frames: calculus.frames and calculus.Serve. -/
namespace Go.Proofs.YtbncfknjgldcbaaGreat
open Go.RowKit Go.Joins Go.Shelf Go.Sort Num

/-- A frame as it may come in. -/
structure Sn where
  t : Int
  v : Int
  s : Int
deriving DecidableEq, Inhabited
structure Sn.bd64 (x : Sn) : Prop where
  h1 : I64 x.t
  h2 : I64 x.v
  h3 : I64 x.s
def Sn.cells (x : Sn) : List Value := [.int .i64 x.t, .int .i64 x.v, .int .i64 x.s]
/-- Block b holds the frames l from off on. -/
def RowS (W : World) (b off : Nat) (l : List Sn) : Prop :=
  ∀ j x, l[j]? = some x → W.cell? ⟨b, off + j * 3, none⟩ = some (.int .i64 x.t) ∧ W.cell? ⟨b, off + j * 3 + 1, none⟩ = some (.int .i64 x.v) ∧ W.cell? ⟨b, off + j * 3 + 2, none⟩ = some (.int .i64 x.s)
theorem RowS.below {B : Nat} {W W' : World} {b off : Nat} {l : List Sn} (h : RowS W b off l) (hk : Below B W W') (hb : b < B) : RowS W' b off l := fun j x hx => by
  obtain ⟨h0, h1, h2⟩ := h j x hx
  exact ⟨(hk.cell (p := ⟨b, _, none⟩) hb).trans h0, (hk.cell (p := ⟨b, _, none⟩) hb).trans h1, (hk.cell (p := ⟨b, _, none⟩) hb).trans h2⟩
/-- The slice holds the frames l. -/
def isS (A : Option Addr) (l : List Sn) : World → Prop := fun W => l ≠ [] → ∃ b off, A = some ⟨b, off, none⟩ ∧ b < W.heap.size ∧ RowS W b off l
theorem cl_isS (A : Option Addr) (l : List Sn) : Cl (isS A l) := fun _ _ h hb hl => by
  obtain ⟨b, off, e, h1, h2⟩ := h hl
  exact ⟨b, off, e, Nat.lt_of_lt_of_le h1 hb.size, h2.below hb h1⟩

def Sn.ok (last : Int) (f : Sn) : Bool := decide (last ≤ f.t) && (decide (f.t ≤ 1073741824) && (decide (1 ≤ f.s) && decide (f.s ≤ 72)))
/-- The frames come in order from last on, and are of a good size. -/
def frOk : Int → List Sn → Bool
  | _, [] => true
  | last, f :: l => f.ok last && frOk f.t l
def frB (l : List Sn) : Bool := decide (l.length ≤ 4000) && frOk 0 l
theorem drop_at {α : Type} {l : List α} {j : Nat} {y : α} (h : l[j]? = some y) : l.drop j = y :: l.drop (j + 1) := by
  obtain ⟨hl, e⟩ := List.getElem?_eq_some_iff.1 h
  rw [← e, List.drop_eq_getElem_cons hl]

set_option maxRecDepth 100000 in
set_option maxHeartbeats 4000000 in
theorem frames_any (A : Option Addr) (cap : Nat) (l : List Sn) (hbd : l.length ≤ 4000 → ∀ x ∈ l, x.bd64) (w : World) (hI : isS A l w) :
    Calls Tryz.prog 83 #[.slice A l.length cap] w fun e w' => e = .returned (.bool (frB l)) ∧ Below w.heap.size w w' := by
  by_cases hlen : 4000 < l.length
  · have h1 : frB l = false := by unfold frB; rw [decide_eq_false (by omega)]; rfl
    rw [h1]
    have z : (4000 : Int) < l.length := by omega
    go_enter Tryz.func83, Tryz.ntmps83
    go_wp2
    go_ret
    exact ⟨rfl, Below.refl _ _⟩
  have h1 : Hid (frB l = frOk 0 l) := by unfold Hid frB; rw [decide_eq_true (by omega)]; rfl
  have hbd := Lib.hid (hbd (by omega))
  have z : decide ((4000 : Int) < l.length) = false := by simp; omega
  have hI := Lib.hid hI
  go_enter Tryz.func83, Tryz.ntmps83
  go_wp2_with fail
  go_loopw [3, 11] (fun s i wr => ∃ (k : Nat) (last : Int), k ≤ l.length ∧ i = .int .i64 ↑k ∧ s = .int .i64 last ∧ Hid (frOk 0 l = frOk last (l.drop k)) ∧ Below w.heap.size w wr)
    (fun _ i _ => l.length - (intOf i).toNat)
  case atStart => exact ⟨0, 0, Nat.zero_le _, rfl, rfl, rfl, Below.refl _ _⟩
  case round =>
    obtain ⟨k, last, hk, rfl, rfl, hok, hB⟩ := hrel
    by_cases hlt : k < l.length
    · have hx : l[k]? = some l[k] := List.getElem?_eq_getElem hlt
      obtain ⟨x, hxe⟩ : ∃ x, l[k] = x := ⟨_, rfl⟩
      rw [hxe] at hx
      obtain ⟨b, off, rfl, hb, hr⟩ := hI.out (by intro h; subst h; simp at hlt)
      obtain ⟨c0, c1, c2⟩ := (hr.below hB hb) k x hx
      have hbz := Nat.lt_of_lt_of_le hb hB.size
      have hstep : Hid (frOk 0 l = (x.ok last && frOk x.t (l.drop (k + 1)))) := by unfold Hid; rw [hok.out, drop_at hx]; rfl
      have hB' := Lib.hid (hB.alloc hB.size (.cells #[.int .i64 x.t, .int .i64 x.v, .int .i64 x.s] 85))
      have hno : Hid (x.ok last = false → frB l = false) := fun h => by rw [h1.out, hstep.out, h]; rfl
      have hyes : Hid (x.ok last = true → frOk 0 l = frOk x.t (l.drop (k + 1))) := fun h => by rw [hstep.out, h]; rfl
      clear hx hxe hok hr
      by_cases a1 : x.t < last
      · have hf := Lib.hid (hno.out (by unfold Sn.ok; rw [decide_eq_false (by omega)]; rfl))
        go_wp2
        go_ret
        exact ⟨by rw [hf.out]; rfl, hB'.out⟩
      by_cases a2 : 1073741824 < x.t
      · have hf := Lib.hid (hno.out (by unfold Sn.ok; rw [decide_eq_false (p := x.t ≤ 1073741824) (by omega)]; simp))
        have z1 : decide (x.t < last) = false := by simp; omega
        go_wp2
        go_ret
        exact ⟨by rw [hf.out]; rfl, hB'.out⟩
      by_cases a3 : x.s < 1
      · have hf := Lib.hid (hno.out (by unfold Sn.ok; rw [decide_eq_false (p := 1 ≤ x.s) (by omega)]; simp))
        have z1 : decide (x.t < last) = false := by simp; omega
        have z2 : decide (1073741824 < x.t) = false := by simp; omega
        go_wp2
        go_ret
        exact ⟨by rw [hf.out]; rfl, hB'.out⟩
      by_cases a4 : 72 < x.s
      · have hf := Lib.hid (hno.out (by unfold Sn.ok; rw [decide_eq_false (p := x.s ≤ 72) (by omega)]; simp))
        have z1 : decide (x.t < last) = false := by simp; omega
        have z2 : decide (1073741824 < x.t) = false := by simp; omega
        have z3 : decide (x.s < 1) = false := by simp; omega
        go_wp2
        go_ret
        exact ⟨by rw [hf.out]; rfl, hB'.out⟩
      have hf := Lib.hid (hyes.out (by unfold Sn.ok; rw [decide_eq_true (by omega), decide_eq_true (by omega), decide_eq_true (by omega), decide_eq_true (by omega)]; rfl))
      have z1 : decide (x.t < last) = false := by simp; omega
      have z2 : decide (1073741824 < x.t) = false := by simp; omega
      have z3 : decide (x.s < 1) = false := by simp; omega
      have z4 : decide (72 < x.s) = false := by simp; omega
      go_wp2
      go_roundw
      case rel => exact ⟨k + 1, x.t, by omega, by go_num, rfl, hf.out, hB'.out⟩
      case measure => simp [intOf]; omega
    · obtain rfl : k = l.length := by omega
      have hf : Hid (frB l = true) := by unfold Hid; rw [h1.out, hok.out, List.drop_length]; rfl
      clear hok
      go_wp2
      go_ret
      exact ⟨by rw [hf.out]; rfl, hB⟩

/-- The times at which the frames have been transmitted. -/
def serveL (slow delay : Int) : Int → List Sn → List Int
  | _, [] => []
  | e, f :: l => (max e (f.t + delay) + f.s * slow) :: serveL slow delay (max e (f.t + delay) + f.s * slow) l
def endL (slow delay : Int) : Int → List Sn → Int
  | e, [] => e
  | e, f :: l => endL slow delay (max e (f.t + delay) + f.s * slow) l
theorem endL_snoc (slow delay e : Int) (l : List Sn) (f : Sn) : endL slow delay e (l ++ [f]) = max (endL slow delay e l) (f.t + delay) + f.s * slow := by
  induction l generalizing e with
  | nil => rfl
  | cons g l ih => exact ih _
theorem serveL_snoc (slow delay e : Int) (l : List Sn) (f : Sn) : serveL slow delay e (l ++ [f]) = serveL slow delay e l ++ [endL slow delay e (l ++ [f])] := by
  induction l generalizing e with
  | nil => rfl
  | cons g l ih => simp only [List.cons_append, serveL, endL, ih]
theorem serveL_len (slow delay e : Int) (l : List Sn) : (serveL slow delay e l).length = l.length := by
  induction l generalizing e with
  | nil => rfl
  | cons g l ih => simp [serveL, ih]
def intsOf (l : List Int) : List Value := l.map (Value.int .i64)
theorem frOk_mem : ∀ {l : List Sn} {last : Int}, frOk last l = true → 0 ≤ last → ∀ x ∈ l, 0 ≤ x.t ∧ x.t ≤ 1073741824 ∧ 1 ≤ x.s ∧ x.s ≤ 72
  | [], _, _, _, _, h => by cases h
  | f :: l, last, h, h0, x, hx => by
    unfold frOk Sn.ok at h
    simp only [Bool.and_eq_true, decide_eq_true_eq] at h
    obtain ⟨⟨h1, h2, h3, h4⟩, h5⟩ := h
    rcases List.mem_cons.1 hx with rfl | hx
    · exact ⟨by omega, h2, h3, h4⟩
    · exact frOk_mem h5 (by omega) x hx
theorem endL_bound {slow delay : Int} (hs0 : 0 ≤ slow) (hs : slow ≤ 16) (hd0 : 0 ≤ delay) (hd : delay ≤ 1000) : ∀ {l : List Sn} {e B : Int}, (∀ x ∈ l, 0 ≤ x.t ∧ x.t ≤ 1073741824 ∧ 1 ≤ x.s ∧ x.s ≤ 72) → 0 ≤ e → e ≤ 1073742824 + B → 0 ≤ B → 0 ≤ endL slow delay e l ∧ endL slow delay e l ≤ 1073742824 + B + 1152 * l.length
  | [], e, B, _, h0, h1, _ => by simp [endL]; omega
  | f :: l, e, B, h, h0, h1, hB => by
    obtain ⟨k1, k2, k3, k4⟩ := h f List.mem_cons_self
    have m1 : 0 ≤ f.s * slow := Int.mul_nonneg (by omega) hs0
    have m2 : f.s * slow ≤ 1152 := by
      have := Int.mul_le_mul k4 hs hs0 (by omega : (0 : Int) ≤ 72)
      omega
    have := endL_bound hs0 hs hd0 hd (l := l) (e := max e (f.t + delay) + f.s * slow) (B := B + 1152) (fun x hx => h x (List.mem_cons_of_mem _ hx)) (by omega) (by omega) (by omega)
    simp only [endL, List.length_cons]
    push_cast
    omega
/-- The slice holds the numbers zs. -/
def isN (A : Option Addr) (zs : List Int) : World → Prop := fun W => zs ≠ [] → ∃ b off, A = some ⟨b, off, none⟩ ∧ b < W.heap.size ∧ ∀ (j : Nat) (z : Int), zs[j]? = some z → W.cell? ⟨b, off + j, none⟩ = some (.int .i64 z)
theorem cl_isN (A : Option Addr) (zs : List Int) : Cl (isN A zs) := fun _ _ h hb hl => by
  obtain ⟨b, off, e, h1, h2⟩ := h hl
  exact ⟨b, off, e, Nat.lt_of_lt_of_le h1 hb.size, fun j z hz => (hb.cell (p := ⟨b, _, none⟩) h1).trans (h2 j z hz)⟩
theorem isN.of_own {base : Nat} {W : World} {A : Option Addr} {cap n : Nat} {zs : List Int} (h : W.ownsRow base 3 1 (.slice A n cap) n (intsOf zs)) (hn : n = zs.length) : isN A zs W := fun hne => by
  rcases h.2 with ⟨e, h0⟩ | ⟨g, c', cur, e, hb, hg, hnc, hcm, hsz, htk⟩
  · have := List.length_pos_iff.2 hne; omega
  · simp only [Value.slice.injEq] at e
    refine ⟨g, 0, e.1, (Array.getElem?_eq_some_iff.1 hg).1, fun j z hz => ?_⟩
    have hj : j < zs.length := (List.getElem?_eq_some_iff.1 hz).1
    rw [Nat.zero_add, cell_of_row W g j cur 3 (0, 0) hg]
    have h2 : (cur.toList.take (n * 1))[j]? = (intsOf zs)[j]? := by rw [htk]
    rw [List.getElem?_take, if_pos (by omega), Array.getElem?_toList] at h2
    rw [h2]
    unfold intsOf
    rw [List.getElem?_map, hz]
    rfl
end Go.Proofs.YtbncfknjgldcbaaGreat
/- calculus.Serve. -/
namespace Go.Proofs.YtbncfknjgldcbaaGreat
open Go.RowKit Go.Joins Go.Shelf Go.Sort Num

theorem infoI : (Tryz.prog.info? 3).map (fun i => (i.zero, i.size, i.bytes)) = some (some (.int .i64 0), 1, 8) := by kernel_rfl
/-- What Serve is asked. -/
def okS (l : List Sn) (slow delay : Int) : Prop := frB l = true ∧ (1 ≤ slow ∧ slow ≤ 16) ∧ (0 ≤ delay ∧ delay ≤ 1000)
def ServePost (l : List Sn) (slow delay : Int) (w : World) (e : Ending) (w' : World) : Prop :=
  (okS l slow delay → ∃ A cap, e = .returned (.tuple #[.slice A l.length cap, .int .i64 0]) ∧ isN A (serveL slow delay 0 l) w') ∧ (¬ okS l slow delay → e = .returned (.tuple #[.slice none 0 0, .int .i64 2])) ∧ Below w.heap.size w w'

set_option maxRecDepth 100000 in
set_option maxHeartbeats 4000000 in
theorem serve_any (A : Option Addr) (cap : Nat) (l : List Sn) (hbd : l.length ≤ 4000 → ∀ x ∈ l, x.bd64) (slow delay : Int) (hs : I64 slow) (hd : I64 delay) (w : World) (hI : isS A l w) :
    Calls Tryz.prog 36 #[.slice A l.length cap, .int .i64 slow, .int .i64 delay] w (ServePost l slow delay w) := by
  obtain ⟨i0, hi, hz0, hz1, hz2⟩ := info_parts infoI
  have HF := frames_any A cap l hbd w hI
  have hI := Lib.hid hI
  have hfr : Hid (frB l = true → l.length ≤ 4000 ∧ frOk 0 l = true) := fun h => by
    unfold frB at h
    simpa using h
  have hok : Hid (okS l slow delay ↔ frB l = true ∧ (1 ≤ slow ∧ slow ≤ 16) ∧ (0 ≤ delay ∧ delay ≤ 1000)) := Iff.rfl
  unfold ServePost
  obtain ⟨F, hF⟩ : ∃ F, frB l = F := ⟨_, rfl⟩
  rw [hF] at HF hfr hok
  generalize okS l slow delay = OK at hok ⊢
  clear hF hbd
  go_enter Tryz.func36, Tryz.ntmps36
  go_wp2_with fail
  (with_reducible refine HF.mono ?_); rintro _ w1 ⟨rfl, hb1⟩
  clear HF
  cases F
  · have hn : Hid (¬ OK) := fun h => by have := (hok.out.1 h).1; cases this
    go_wp2
    go_ret2
    exact ⟨fun h => absurd h hn.out, fun _ => rfl, hb1⟩
  by_cases a1 : slow < 1
  · have hn : Hid (¬ OK) := fun h => by have := (hok.out.1 h).2.1.1; omega
    go_wp2
    go_ret2
    exact ⟨fun h => absurd h hn.out, fun _ => rfl, hb1⟩
  by_cases a2 : 16 < slow
  · have hn : Hid (¬ OK) := fun h => by have := (hok.out.1 h).2.1.2; omega
    have z1 : decide (slow < 1) = false := by simp; omega
    go_wp2
    go_ret2
    exact ⟨fun h => absurd h hn.out, fun _ => rfl, hb1⟩
  by_cases a3 : delay < 0
  · have hn : Hid (¬ OK) := fun h => by have := (hok.out.1 h).2.2.1; omega
    have z1 : decide (slow < 1) = false := by simp; omega
    have z2 : decide (16 < slow) = false := by simp; omega
    go_wp2
    go_ret2
    exact ⟨fun h => absurd h hn.out, fun _ => rfl, hb1⟩
  by_cases a4 : 1000 < delay
  · have hn : Hid (¬ OK) := fun h => by have := (hok.out.1 h).2.2.2; omega
    have z1 : decide (slow < 1) = false := by simp; omega
    have z2 : decide (16 < slow) = false := by simp; omega
    have z3 : decide (delay < 0) = false := by simp; omega
    go_wp2
    go_ret2
    exact ⟨fun h => absurd h hn.out, fun _ => rfl, hb1⟩
  have hy : Hid OK := hok.out.2 ⟨rfl, ⟨by omega, by omega⟩, by omega, by omega⟩
  have s1 : 1 ≤ slow := by omega
  have s2 : slow ≤ 16 := by omega
  have d1 : 0 ≤ delay := by omega
  have d2 : delay ≤ 1000 := by omega
  have z1 : decide (slow < 1) = false := by simp; omega
  have z2 : decide (16 < slow) = false := by simp; omega
  have z3 : decide (delay < 0) = false := by simp; omega
  have z4 : decide (1000 < delay) = false := by simp; omega
  obtain ⟨hl4, hfo⟩ := hfr.out rfl
  have hmem := Lib.hid (frOk_mem hfo (Int.le_refl _))
  clear hok hfr hfo a1 a2 a3 a4
  go_wp2_with fail
  clear z1 z2 z3 z4
  go_loopw [8, 9, 33] (fun v s i wr => ∃ (k : Nat) (A' : Option Addr) (c' : Nat) (e : Int), k ≤ l.length ∧ i = .int .i64 ↑k ∧ v = .slice A' k c' ∧ s = .int .i64 e ∧ Hid (e = endL slow delay 0 (l.take k)) ∧ wr.ownsRow w1.heap.size 3 1 (.slice A' k c') k (intsOf (serveL slow delay 0 (l.take k))) ∧ Below w1.heap.size w1 wr)
    (fun _ _ i _ => l.length - (intOf i).toNat)
  case atStart => exact ⟨0, none, 0, 0, Nat.zero_le _, rfl, rfl, rfl, by unfold Hid; rw [List.take_zero]; rfl, by simpa [serveL, intsOf] using World.ownsRow_nil w1 w1.heap.size 3 1, Below.refl _ _⟩
  case round =>
    obtain ⟨k, A', c', e, hk, rfl, rfl, rfl, he, hown, hB⟩ := hrel
    by_cases hlt : k < l.length
    · have hx : l[k]? = some l[k] := List.getElem?_eq_getElem hlt
      obtain ⟨x, hxe⟩ : ∃ x, l[k] = x := ⟨_, rfl⟩
      rw [hxe] at hx
      have hts := Lib.hid (take_succ' hx)
      obtain ⟨b, off, rfl, hb, hr⟩ := hI.out (by intro h; subst h; simp at hlt)
      have hB1 := hb1.trans (hB.mono hb1.size)
      obtain ⟨c0, c1, c2⟩ := (hr.below hB1 hb) k x hx
      have hbz := Nat.lt_of_lt_of_le hb hB1.size
      obtain ⟨t1, t2, t3, t4⟩ := hmem.out x (List.mem_of_getElem? hx)
      have hnum := endL_bound (slow := slow) (delay := delay) (by omega) s2 d1 d2 (l := l.take k) (e := 0) (B := 0) (fun y hy => hmem.out y (List.mem_of_mem_take hy)) (Int.le_refl _) (by omega) (Int.le_refl _)
      rw [← he.out, List.length_take, Nat.min_eq_left hk] at hnum
      obtain ⟨e1, e2⟩ := hnum
      have e3 : e ≤ 1073742824 + 1152 * 4000 := by
        have : ((k : Nat) : Int) ≤ 4000 := by omega
        omega
      obtain ⟨p, hp⟩ : ∃ p, x.s * slow = p := ⟨_, rfl⟩
      have p0 : 0 ≤ p := by rw [← hp]; exact Int.mul_nonneg (by omega) (by omega)
      have p1 : p ≤ 1152 := by
        have := Int.mul_le_mul t4 s2 (by omega : (0 : Int) ≤ slow) (by omega : (0 : Int) ≤ 72)
        rw [hp] at this
        omega
      have m0 : 0 ≤ max e (x.t + delay) := by omega
      have m1 : max e (x.t + delay) ≤ 1073742824 + 1152 * 4000 := by omega
      have hnext : Hid (endL slow delay 0 (l.take (k + 1)) = max e (x.t + delay) + p) := by unfold Hid; rw [hts.out, endL_snoc, ← he.out, hp]
      have hser : Hid (intsOf (serveL slow delay 0 (l.take (k + 1))) = intsOf (serveL slow delay 0 (l.take k)) ++ [.int .i64 (max e (x.t + delay) + p)]) := by
        unfold Hid
        have := hnext.out
        rw [hts.out] at this ⊢
        rw [serveL_snoc, this]
        simp [intsOf]
      have Hown := Lib.hid hown
      have HB := Lib.hid hB
      have hone : Hid (∀ u ∈ [Value.int .i64 (max e (x.t + delay) + p)], u.oneCell' = true) := by
        intro u hu
        simp only [List.mem_cons, List.not_mem_nil, or_false] at hu
        subst hu; rfl
      have hm1 := Lib.hid (show k + 1 ≤ maxLen by unfold maxLen; omega)
      have hy1 := Lib.hid (show (k + 1) * 8 ≤ 140737488355328 by omega)
      have hwz := hB.size
      clear hx hxe he hown hB hB1 hr e2
      have hNew : ((wr.alloc (.cells #[.int .i64 x.t, .int .i64 x.v, .int .i64 x.s] 85)).alloc (.cells #[.int .i64 (max e (x.t + delay) + p)] 3)).heap[wr.heap.size + 1]? = some (.cells #[.int .i64 (max e (x.t + delay) + p)] 3 (0, 0)) := by simpa using heap_alloc_new (wr.alloc (.cells #[.int .i64 x.t, .int .i64 x.v, .int .i64 x.s] 85)) (.cells #[.int .i64 (max e (x.t + delay) + p)] 3)
      have hNews := Lib.hid (World.news_of_block hNew)
      clear hNew
      go_wp2_with (at_builtin; refine wpList_append_own _ rfl _ _ 66 rfl w1.heap.size 3 i0 _ 1 8 Tryz.underlying66 hi hz0 hz1 hz2 rfl (by decide) _ _ _ rfl ((Hown.out.alloc _).alloc _) ⟨wr.heap.size + 1, 0, none⟩ 1 1 [.int .i64 (max e (x.t + delay) + p)] rfl rfl hNews.out hone.out hm1.out hy1.out (by simp; omega) ?_; intro v' w5 hown' hgrow _; obtain ⟨g', cap3, rfl⟩ := ownsRow_succ hown')
      have hB5 := Lib.hid (((HB.out.alloc hwz _).alloc (by simp; omega) _).grown hgrow (by simp; omega) (fun j e => own_block_le Hown.out e))
      have Hown5 := Lib.hid hown'
      clear hown' hgrow
      go_roundw
      case rel => exact ⟨k + 1, some ⟨g', 0, none⟩, cap3, max e (x.t + delay) + p, hlt, by go_num, rfl, rfl, hnext.out.symm, by rw [hser.out]; exact Hown5.out, hB5.out⟩
      case measure => simp [intOf]; omega
    · obtain rfl : k = l.length := by omega
      rw [List.take_length] at hown
      have hN := Lib.hid (isN.of_own hown (serveL_len _ _ _ _).symm)
      have hB1 := hb1.trans (hB.mono hb1.size)
      clear hown
      go_wp2
      go_ret2
      exact ⟨fun _ => ⟨A', c', rfl, hN.out⟩, fun h => absurd hy.out h, hB1⟩
end Go.Proofs.YtbncfknjgldcbaaGreat
/- calculus.sum, over a function value. -/
namespace Go.Proofs.YtbncfknjgldcbaaGreat
open Go.RowKit Go.Joins Go.Shelf Go.Sort Num

/-- A number, or the error that there is none. -/
def numV (o : Option Rat) : Int × Int × Int := match o with | some r => (r.num, (r.den : Int), 0) | none => (0, 0, 3)
def addO (a b : Option Rat) : Option Rat := match a, b with | some x, some y => if Fit (x + y) then some (x + y) else none | _, _ => none
def sumO (l : List (Option Rat)) : Option Rat := l.foldl addO (some 0)
theorem sumO_snoc (l : List (Option Rat)) (o : Option Rat) : sumO (l ++ [o]) = addO (sumO l) o := by unfold sumO; rw [List.foldl_append]; rfl
theorem addO_some (a b : Rat) : addO (some a) (some b) = if Fit (a + b) then some (a + b) else none := rfl
theorem addO_none (o : Option Rat) : addO none o = none := rfl
theorem sumO_none {l : List (Option Rat)} {k : Nat} (h : sumO (l.take k) = none) : sumO l = none := by
  have e : l = l.take k ++ l.drop k := (List.take_append_drop _ _).symm
  rw [e]
  unfold sumO at h ⊢
  rw [List.foldl_append, h]
  generalize l.drop k = d
  induction d with
  | nil => rfl
  | cons o d ih => exact ih
def fitO (o : Option Rat) : Prop := ∀ r, o = some r → Fit r
theorem sumO_fit {l : List (Option Rat)} : fitO (sumO l) := by
  rcases List.eq_nil_or_concat l with rfl | ⟨l, o, rfl⟩
  · intro r h
    cases h
    decide
  · intro r h
    rw [List.concat_eq_append, sumO_snoc] at h
    unfold addO at h
    split at h
    · split at h
      · cases h; assumption
      · cases h
    · cases h
/-- The slice holds the values vs, one in a cell. -/
def isV (A : Option Addr) (vs : List Value) : World → Prop := fun W => vs ≠ [] → ∃ b off, A = some ⟨b, off, none⟩ ∧ b < W.heap.size ∧ ∀ (j : Nat) (v : Value), vs[j]? = some v → W.cell? ⟨b, off + j, none⟩ = some v
theorem cl_isV (A : Option Addr) (vs : List Value) : Cl (isV A vs) := fun _ _ h hb hl => by
  obtain ⟨b, off, e, h1, h2⟩ := h hl
  exact ⟨b, off, e, Nat.lt_of_lt_of_le h1 hb.size, fun j v hv => (hb.cell (p := ⟨b, _, none⟩) h1).trans (h2 j v hv)⟩

set_option maxRecDepth 100000 in
set_option maxHeartbeats 4000000 in
theorem sum_rate (A : Option Addr) (cap : Nat) (vs : List Value) (os : List (Option Rat)) (hlen : vs.length = os.length) (hl : vs.length ≤ 1048576) (hfit : ∀ o ∈ os, fitO o) (w : World) (hI : isV A vs w)
    (HN : ∀ (j : Nat) (v : Value) (o : Option Rat), vs[j]? = some v → os[j]? = some o → ∀ W : World, Below w.heap.size w W → Calls Tryz.prog 10 #[v] W fun e w' => e = .returned (ratV (numV o)) ∧ Below W.heap.size W w') :
    Calls Tryz.prog 106 #[.slice A vs.length cap, .func (.func 10) #[] #[]] w fun e w' => e = .returned (ratV (numV (sumO os))) ∧ Below w.heap.size w w' := by
  replace HN := Lib.hid HN
  replace hI := Lib.hid hI
  replace hfit := Lib.hid hfit
  replace hlen := Lib.hid hlen
  go_enter Tryz.func106, Tryz.ntmps106
  go_wp2_with fail
  have bR0 := (BoxN.new w 25 #[.int .i64 0, .int .i64 0]).alloc (.cells #[.int .i64 0, .int .i64 1] 25)
  have bM0 := BoxN.new (w.alloc (.cells #[.int .i64 0, .int .i64 0] 25)) 25 #[.int .i64 0, .int .i64 1]
  rw [World.size_alloc] at bM0
  have hB0 : Below w.heap.size w ((w.alloc (.cells #[.int .i64 0, .int .i64 0] 25)).alloc (.cells #[.int .i64 0, .int .i64 1] 25)) := ((Below.refl _ _).alloc (Nat.le_refl _) _).alloc (by simp) _
  go_loopw [14] (fun i wr => ∃ (k : Nat) (a : Rat), k ≤ vs.length ∧ i = .int .i64 ↑k ∧ Hid (sumO (os.take k) = some a) ∧ BoxN wr w.heap.size 25 #[.int .i64 0, .int .i64 0] ∧ BoxN wr (w.heap.size + 1) 25 #[.int .i64 a.num, .int .i64 a.den] ∧ Below w.heap.size w wr)
    (fun i _ => vs.length - (intOf i).toNat)
  case atStart => exact ⟨0, 0, Nat.zero_le _, rfl, rfl, by (first | exact bR0 | exact bM0 | exact hB0 | (exact bR0.set2 _ _) | (exact bM0.set2 _ _) | (repeat' (first | exact hB0 | (with_reducible refine Below.setCell ?_ ?_ _) | (simp; omega) | (simp; done) | omega))), by (first | exact bR0 | exact bM0 | exact hB0 | (exact bR0.set2 _ _) | (exact bM0.set2 _ _) | (repeat' (first | exact hB0 | (with_reducible refine Below.setCell ?_ ?_ _) | (simp; omega) | (simp; done) | omega))), by (first | exact bR0 | exact bM0 | exact hB0 | (exact bR0.set2 _ _) | (exact bM0.set2 _ _) | (repeat' (first | exact hB0 | (with_reducible refine Below.setCell ?_ ?_ _) | (simp; omega) | (simp; done) | omega)))⟩
  case round =>
    clear bR0 bM0 hB0
    obtain ⟨k, a, hk, rfl, hsum, bR, bM, hB⟩ := hrel
    by_cases hlt : k < vs.length
    · have hv : vs[k]? = some vs[k] := List.getElem?_eq_getElem hlt
      obtain ⟨v, hve⟩ : ∃ v, vs[k] = v := ⟨_, rfl⟩
      rw [hve] at hv
      obtain ⟨o, ho⟩ : ∃ o, os[k]? = some o := ⟨_, List.getElem?_eq_getElem (by have := hlen.out; omega)⟩
      obtain ⟨b, off, rfl, hb, hr⟩ := hI.out (by intro h; subst h; simp at hlt)
      have c0 := (hB.cell (p := ⟨b, off + k, none⟩) hb).trans (hr k v hv)
      have hbz := Nat.lt_of_lt_of_le hb hB.size
      have hC := HN.out k v o hv ho wr hB
      have hstep : Hid (sumO (os.take (k + 1)) = addO (some a) o) := by unfold Hid; rw [take_succ' ho, sumO_snoc, hsum.out]
      have hfa : Fit a := sumO_fit a hsum.out
      have hfo := hfit.out o (List.mem_of_getElem? ho)
      have hno : Hid (sumO (os.take (k + 1)) = none → sumO os = none) := fun h => sumO_none h
      have hC := Lib.hid hC
      clear hv hve ho hr
      rcases o with _ | r
      · have hno2 : Hid (numV (sumO os) = (0, 0, 3)) := by unfold Hid; rw [hno.out (by rw [hstep.out]; rfl)]; rfl
        simp only [numV, ratV] at hC
        go_wp2_with fail
        (with_reducible refine (hC.out).mono ?_); rintro _ w1 ⟨rfl, hb1⟩
        have bR1 := bR.below hb1 bR.lt
        have r0 := bR1.cell 0
        have r1 := bR1.cell 1
        have f0 := bR1.frozen 0
        have f1 := bR1.frozen 1
        have kR := bR1.lt
        have hB := hB.trans (hb1.mono hB.size)
        clear c0 hb1 bM bR
        go_wp2
        refine bodyPost_ret (v := ratV (0, 0, 3)) (by simp [results, Tryz.results106, go_sem, ratV, r0, r1, kR]) rfl ⟨by rw [hno2.out], ?_⟩
        (have hBs := hB.size; (try simp only [World.size_alloc] at hBs); repeat' (first | (with_reducible exact hB) | (with_reducible exact hBs) | (with_reducible refine Below.drew ?_) | (with_reducible refine below_drewN ?_ _) | (with_reducible refine Below.setCell ?_ ?_ _) | (with_reducible refine Below.alloc ?_ ?_ _) | go_size | omega | (simp; omega)))
      · simp only [numV, ratV] at hC
        have hfr : Fit r := hfo r rfl
        have HA : ∀ W : World, _ := fun W => add_r hfa hfr W
        obtain ⟨rv, hrv⟩ : ∃ rv, ofR (a + r) = rv := ⟨_, rfl⟩
        rw [hrv] at HA
        obtain ⟨sn, sd, se⟩ := rv
        simp only [ratV] at HA
        replace HA := Lib.hid HA
        obtain ⟨rn, hrn⟩ : ∃ rn, r.num = rn := ⟨_, rfl⟩
        obtain ⟨rd, hrd⟩ : ∃ rd : Int, (r.den : Int) = rd := ⟨_, rfl⟩
        have hC' := hC.out
        have HA' := HA.out
        rw [hrn, hrd] at hC' HA'
        replace hC := Lib.hid hC'
        replace HA := Lib.hid HA'
        have Hrv := Lib.hid hrv
        clear hC' HA' hrn hrd hrv hfo
        go_wp2_with fail
        (with_reducible refine (hC.out).mono ?_); rintro _ w1 ⟨rfl, hb1⟩
        have bR1 := bR.below hb1 bR.lt
        have bM1 := bM.below hb1 bM.lt
        have m0 := (bM1.alloc (.cells #[.int .i64 rn, .int .i64 rd] 25)).cell 0
        have m1 := (bM1.alloc (.cells #[.int .i64 rn, .int .i64 rd] 25)).cell 1
        have kM := bM1.lt
        have hB1 := hB.trans (hb1.mono hB.size)
        have hB2 := hB1.alloc hB1.size (.cells #[.int .i64 rn, .int .i64 rd] 25)
        have bR2 := bR1.alloc (.cells #[.int .i64 rn, .int .i64 rd] 25)
        have bM2 := bM1.alloc (.cells #[.int .i64 rn, .int .i64 rd] 25)
        clear c0 hb1 bM bR bR1 bM1 hB1
        go_wp2_with fail
        (with_reducible refine (HA.out _).mono ?_); rintro _ w2 ⟨rfl, hb2⟩
        have bR3 := bR2.below hb2 bR2.lt
        have bM3 := bM2.below hb2 bM2.lt
        have r0 := bR3.cell 0
        have r1 := bR3.cell 1
        have f0 := bR3.frozen 0
        have f1 := bR3.frozen 1
        have kR := bR3.lt
        have g0 := bM3.frozen 0
        have g1 := bM3.frozen 1
        have n0 := bM3.cell 0
        have n1 := bM3.cell 1
        have kM3 := bM3.lt
        have hB3 := hB2.trans (hb2.mono hB2.size)
        clear m0 m1 hb2 hB2 bR2 bM2
        by_cases hf : Fit (a + r)
        · have he := Hrv.out
          rw [ofR_yes hf] at he
          simp only [Prod.mk.injEq] at he
          obtain ⟨e1, e2, rfl⟩ := he
          have hs2 : Hid (sumO (os.take (k + 1)) = some (a + r)) := by unfold Hid; rw [hstep.out, addO_some, if_pos hf]
          have bM4 := Lib.hid (bM3.set2 (.int .i64 sn) (.int .i64 sd))
          have bR4 := Lib.hid ((bR3.far (p := ⟨w.heap.size + 1, 0, none⟩) (by simp) (.int .i64 sn)).far (p := ⟨w.heap.size + 1, 1, none⟩) (by simp) (.int .i64 sd))
          have hB4 := Lib.hid ((hB3.setCell (p := ⟨w.heap.size + 1, 0, none⟩) (by simp) (.int .i64 sn)).setCell (p := ⟨w.heap.size + 1, 1, none⟩) (by simp) (.int .i64 sd))
          have He1 := Lib.hid e1
          have He2 := Lib.hid e2
          clear e1 e2 hf bM3 bR3 hB3
          go_wp2
          go_roundw
          case rel => exact ⟨k + 1, a + r, by omega, by go_num, hs2.out, bR4.out, by rw [He1.out, He2.out]; exact bM4.out, hB4.out⟩
          case measure => simp [intOf]; omega
        · have he := Hrv.out
          rw [ofR_no hf] at he
          simp only [Prod.mk.injEq] at he
          obtain ⟨rfl, rfl, rfl⟩ := he
          have hno2 : Hid (numV (sumO os) = (0, 0, 3)) := by unfold Hid; rw [hno.out (by rw [hstep.out, addO_some, if_neg hf])]; rfl
          have bR4 := ((bR3.far (p := ⟨w.heap.size + 1, 0, none⟩) (by simp) (.int .i64 0)).far (p := ⟨w.heap.size + 1, 1, none⟩) (by simp) (.int .i64 0))
          have r0' := bR4.cell 0
          have r1' := bR4.cell 1
          have f0' := bR4.frozen 0
          have f1' := bR4.frozen 1
          have hB := hB3
          clear hf bM3 bR3 bR4
          go_wp2
          refine bodyPost_ret (v := ratV (0, 0, 3)) (by simp [results, Tryz.results106, go_sem, ratV, r0', r1']) rfl ⟨by rw [hno2.out], ?_⟩
          (have hBs := hB.size; (try simp only [World.size_alloc] at hBs); repeat' (first | (with_reducible exact hB) | (with_reducible exact hBs) | (with_reducible refine Below.drew ?_) | (with_reducible refine below_drewN ?_ _) | (with_reducible refine Below.setCell ?_ ?_ _) | (with_reducible refine Below.alloc ?_ ?_ _) | go_size | omega | (simp; omega)))
    · obtain rfl : k = vs.length := by omega
      have hres : Hid (numV (sumO os) = (a.num, (a.den : Int), 0)) := by
        have := hsum.out
        rw [hlen.out, List.take_length] at this
        unfold Hid
        rw [this]
        rfl
      have r0 := bR.cell 0
      have r1 := bR.cell 1
      have f0 := bR.frozen 0
      have f1 := bR.frozen 1
      have m0 := bM.cell 0
      have m1 := bM.cell 1
      have kR := bR.lt
      have kM := bM.lt
      generalize a.num = an at hres m0
      generalize (a.den : Int) = ad at hres m1
      clear hsum bR bM
      go_wp2_with fail
      refine bodyPost_ret (v := ratV (an, ad, 0)) (by simp [results, Tryz.results106, go_sem, ratV, r0, r1]) rfl ⟨by rw [hres.out], ?_⟩
      (have hBs := hB.size; (try simp only [World.size_alloc] at hBs); repeat' (first | (with_reducible exact hB) | (with_reducible exact hBs) | (with_reducible refine Below.drew ?_) | (with_reducible refine below_drewN ?_ _) | (with_reducible refine Below.setCell ?_ ?_ _) | (with_reducible refine Below.alloc ?_ ?_ _) | go_size | omega | (simp; omega)))
set_option maxRecDepth 100000 in
set_option maxHeartbeats 4000000 in
theorem sum_tot (A : Option Addr) (cap : Nat) (vs : List Value) (os : List (Option Rat)) (hlen : vs.length = os.length) (hl : vs.length ≤ 1048576) (hfit : ∀ o ∈ os, fitO o) (bt : Nat) (w : World) (hI : isV A vs w)
    (HN : ∀ (j : Nat) (v : Value) (o : Option Rat), vs[j]? = some v → os[j]? = some o → ∀ W : World, Below w.heap.size w W → Calls Tryz.prog 107 #[v, .pointer (some ⟨bt, 0, none⟩)] W fun e w' => e = .returned (ratV (numV o)) ∧ Below W.heap.size W w') :
    Calls Tryz.prog 106 #[.slice A vs.length cap, .func (.func 107) #[] #[.pointer (some ⟨bt, 0, none⟩)]] w fun e w' => e = .returned (ratV (numV (sumO os))) ∧ Below w.heap.size w w' := by
  replace HN := Lib.hid HN
  replace hI := Lib.hid hI
  replace hfit := Lib.hid hfit
  replace hlen := Lib.hid hlen
  go_enter Tryz.func106, Tryz.ntmps106
  go_wp2_with fail
  have bR0 := (BoxN.new w 25 #[.int .i64 0, .int .i64 0]).alloc (.cells #[.int .i64 0, .int .i64 1] 25)
  have bM0 := BoxN.new (w.alloc (.cells #[.int .i64 0, .int .i64 0] 25)) 25 #[.int .i64 0, .int .i64 1]
  rw [World.size_alloc] at bM0
  have hB0 : Below w.heap.size w ((w.alloc (.cells #[.int .i64 0, .int .i64 0] 25)).alloc (.cells #[.int .i64 0, .int .i64 1] 25)) := ((Below.refl _ _).alloc (Nat.le_refl _) _).alloc (by simp) _
  go_loopw [14] (fun i wr => ∃ (k : Nat) (a : Rat), k ≤ vs.length ∧ i = .int .i64 ↑k ∧ Hid (sumO (os.take k) = some a) ∧ BoxN wr w.heap.size 25 #[.int .i64 0, .int .i64 0] ∧ BoxN wr (w.heap.size + 1) 25 #[.int .i64 a.num, .int .i64 a.den] ∧ Below w.heap.size w wr)
    (fun i _ => vs.length - (intOf i).toNat)
  case atStart => exact ⟨0, 0, Nat.zero_le _, rfl, rfl, by (first | exact bR0 | exact bM0 | exact hB0 | (exact bR0.set2 _ _) | (exact bM0.set2 _ _) | (repeat' (first | exact hB0 | (with_reducible refine Below.setCell ?_ ?_ _) | (simp; omega) | (simp; done) | omega))), by (first | exact bR0 | exact bM0 | exact hB0 | (exact bR0.set2 _ _) | (exact bM0.set2 _ _) | (repeat' (first | exact hB0 | (with_reducible refine Below.setCell ?_ ?_ _) | (simp; omega) | (simp; done) | omega))), by (first | exact bR0 | exact bM0 | exact hB0 | (exact bR0.set2 _ _) | (exact bM0.set2 _ _) | (repeat' (first | exact hB0 | (with_reducible refine Below.setCell ?_ ?_ _) | (simp; omega) | (simp; done) | omega)))⟩
  case round =>
    clear bR0 bM0 hB0
    obtain ⟨k, a, hk, rfl, hsum, bR, bM, hB⟩ := hrel
    by_cases hlt : k < vs.length
    · have hv : vs[k]? = some vs[k] := List.getElem?_eq_getElem hlt
      obtain ⟨v, hve⟩ : ∃ v, vs[k] = v := ⟨_, rfl⟩
      rw [hve] at hv
      obtain ⟨o, ho⟩ : ∃ o, os[k]? = some o := ⟨_, List.getElem?_eq_getElem (by have := hlen.out; omega)⟩
      obtain ⟨b, off, rfl, hb, hr⟩ := hI.out (by intro h; subst h; simp at hlt)
      have c0 := (hB.cell (p := ⟨b, off + k, none⟩) hb).trans (hr k v hv)
      have hbz := Nat.lt_of_lt_of_le hb hB.size
      have hC := HN.out k v o hv ho wr hB
      have hstep : Hid (sumO (os.take (k + 1)) = addO (some a) o) := by unfold Hid; rw [take_succ' ho, sumO_snoc, hsum.out]
      have hfa : Fit a := sumO_fit a hsum.out
      have hfo := hfit.out o (List.mem_of_getElem? ho)
      have hno : Hid (sumO (os.take (k + 1)) = none → sumO os = none) := fun h => sumO_none h
      have hC := Lib.hid hC
      clear hv hve ho hr
      rcases o with _ | r
      · have hno2 : Hid (numV (sumO os) = (0, 0, 3)) := by unfold Hid; rw [hno.out (by rw [hstep.out]; rfl)]; rfl
        simp only [numV, ratV] at hC
        go_wp2_with fail
        (with_reducible refine (hC.out).mono ?_); rintro _ w1 ⟨rfl, hb1⟩
        have bR1 := bR.below hb1 bR.lt
        have r0 := bR1.cell 0
        have r1 := bR1.cell 1
        have f0 := bR1.frozen 0
        have f1 := bR1.frozen 1
        have kR := bR1.lt
        have hB := hB.trans (hb1.mono hB.size)
        clear c0 hb1 bM bR
        go_wp2
        refine bodyPost_ret (v := ratV (0, 0, 3)) (by simp [results, Tryz.results106, go_sem, ratV, r0, r1, kR]) rfl ⟨by rw [hno2.out], ?_⟩
        (have hBs := hB.size; (try simp only [World.size_alloc] at hBs); repeat' (first | (with_reducible exact hB) | (with_reducible exact hBs) | (with_reducible refine Below.drew ?_) | (with_reducible refine below_drewN ?_ _) | (with_reducible refine Below.setCell ?_ ?_ _) | (with_reducible refine Below.alloc ?_ ?_ _) | go_size | omega | (simp; omega)))
      · simp only [numV, ratV] at hC
        have hfr : Fit r := hfo r rfl
        have HA : ∀ W : World, _ := fun W => add_r hfa hfr W
        obtain ⟨rv, hrv⟩ : ∃ rv, ofR (a + r) = rv := ⟨_, rfl⟩
        rw [hrv] at HA
        obtain ⟨sn, sd, se⟩ := rv
        simp only [ratV] at HA
        replace HA := Lib.hid HA
        obtain ⟨rn, hrn⟩ : ∃ rn, r.num = rn := ⟨_, rfl⟩
        obtain ⟨rd, hrd⟩ : ∃ rd : Int, (r.den : Int) = rd := ⟨_, rfl⟩
        have hC' := hC.out
        have HA' := HA.out
        rw [hrn, hrd] at hC' HA'
        replace hC := Lib.hid hC'
        replace HA := Lib.hid HA'
        have Hrv := Lib.hid hrv
        clear hC' HA' hrn hrd hrv hfo
        go_wp2_with fail
        (with_reducible refine (hC.out).mono ?_); rintro _ w1 ⟨rfl, hb1⟩
        have bR1 := bR.below hb1 bR.lt
        have bM1 := bM.below hb1 bM.lt
        have m0 := (bM1.alloc (.cells #[.int .i64 rn, .int .i64 rd] 25)).cell 0
        have m1 := (bM1.alloc (.cells #[.int .i64 rn, .int .i64 rd] 25)).cell 1
        have kM := bM1.lt
        have hB1 := hB.trans (hb1.mono hB.size)
        have hB2 := hB1.alloc hB1.size (.cells #[.int .i64 rn, .int .i64 rd] 25)
        have bR2 := bR1.alloc (.cells #[.int .i64 rn, .int .i64 rd] 25)
        have bM2 := bM1.alloc (.cells #[.int .i64 rn, .int .i64 rd] 25)
        clear c0 hb1 bM bR bR1 bM1 hB1
        go_wp2_with fail
        (with_reducible refine (HA.out _).mono ?_); rintro _ w2 ⟨rfl, hb2⟩
        have bR3 := bR2.below hb2 bR2.lt
        have bM3 := bM2.below hb2 bM2.lt
        have r0 := bR3.cell 0
        have r1 := bR3.cell 1
        have f0 := bR3.frozen 0
        have f1 := bR3.frozen 1
        have kR := bR3.lt
        have g0 := bM3.frozen 0
        have g1 := bM3.frozen 1
        have n0 := bM3.cell 0
        have n1 := bM3.cell 1
        have kM3 := bM3.lt
        have hB3 := hB2.trans (hb2.mono hB2.size)
        clear m0 m1 hb2 hB2 bR2 bM2
        by_cases hf : Fit (a + r)
        · have he := Hrv.out
          rw [ofR_yes hf] at he
          simp only [Prod.mk.injEq] at he
          obtain ⟨e1, e2, rfl⟩ := he
          have hs2 : Hid (sumO (os.take (k + 1)) = some (a + r)) := by unfold Hid; rw [hstep.out, addO_some, if_pos hf]
          have bM4 := Lib.hid (bM3.set2 (.int .i64 sn) (.int .i64 sd))
          have bR4 := Lib.hid ((bR3.far (p := ⟨w.heap.size + 1, 0, none⟩) (by simp) (.int .i64 sn)).far (p := ⟨w.heap.size + 1, 1, none⟩) (by simp) (.int .i64 sd))
          have hB4 := Lib.hid ((hB3.setCell (p := ⟨w.heap.size + 1, 0, none⟩) (by simp) (.int .i64 sn)).setCell (p := ⟨w.heap.size + 1, 1, none⟩) (by simp) (.int .i64 sd))
          have He1 := Lib.hid e1
          have He2 := Lib.hid e2
          clear e1 e2 hf bM3 bR3 hB3
          go_wp2
          go_roundw
          case rel => exact ⟨k + 1, a + r, by omega, by go_num, hs2.out, bR4.out, by rw [He1.out, He2.out]; exact bM4.out, hB4.out⟩
          case measure => simp [intOf]; omega
        · have he := Hrv.out
          rw [ofR_no hf] at he
          simp only [Prod.mk.injEq] at he
          obtain ⟨rfl, rfl, rfl⟩ := he
          have hno2 : Hid (numV (sumO os) = (0, 0, 3)) := by unfold Hid; rw [hno.out (by rw [hstep.out, addO_some, if_neg hf])]; rfl
          have bR4 := ((bR3.far (p := ⟨w.heap.size + 1, 0, none⟩) (by simp) (.int .i64 0)).far (p := ⟨w.heap.size + 1, 1, none⟩) (by simp) (.int .i64 0))
          have r0' := bR4.cell 0
          have r1' := bR4.cell 1
          have f0' := bR4.frozen 0
          have f1' := bR4.frozen 1
          have hB := hB3
          clear hf bM3 bR3 bR4
          go_wp2
          refine bodyPost_ret (v := ratV (0, 0, 3)) (by simp [results, Tryz.results106, go_sem, ratV, r0', r1']) rfl ⟨by rw [hno2.out], ?_⟩
          (have hBs := hB.size; (try simp only [World.size_alloc] at hBs); repeat' (first | (with_reducible exact hB) | (with_reducible exact hBs) | (with_reducible refine Below.drew ?_) | (with_reducible refine below_drewN ?_ _) | (with_reducible refine Below.setCell ?_ ?_ _) | (with_reducible refine Below.alloc ?_ ?_ _) | go_size | omega | (simp; omega)))
    · obtain rfl : k = vs.length := by omega
      have hres : Hid (numV (sumO os) = (a.num, (a.den : Int), 0)) := by
        have := hsum.out
        rw [hlen.out, List.take_length] at this
        unfold Hid
        rw [this]
        rfl
      have r0 := bR.cell 0
      have r1 := bR.cell 1
      have f0 := bR.frozen 0
      have f1 := bR.frozen 1
      have m0 := bM.cell 0
      have m1 := bM.cell 1
      have kR := bR.lt
      have kM := bM.lt
      generalize a.num = an at hres m0
      generalize (a.den : Int) = ad at hres m1
      clear hsum bR bM
      go_wp2_with fail
      refine bodyPost_ret (v := ratV (an, ad, 0)) (by simp [results, Tryz.results106, go_sem, ratV, r0, r1]) rfl ⟨by rw [hres.out], ?_⟩
      (have hBs := hB.size; (try simp only [World.size_alloc] at hBs); repeat' (first | (with_reducible exact hB) | (with_reducible exact hBs) | (with_reducible refine Below.drew ?_) | (with_reducible refine below_drewN ?_ _) | (with_reducible refine Below.setCell ?_ ?_ _) | (with_reducible refine Below.alloc ?_ ?_ _) | go_size | omega | (simp; omega)))
end Go.Proofs.YtbncfknjgldcbaaGreat
/- calculus.total, and calculus.Valid of a server. -/
namespace Go.Proofs.YtbncfknjgldcbaaGreat
open Go.RowKit Go.Joins Go.Shelf Go.Sort Num

/-- The value of a curve at t. -/
def atO (t : Rat) (c : List Buck) : Option Rat := if ∀ x ∈ c, okv x t then some (minV c t) else none
theorem atV_o (c : List Buck) (t : Rat) : atV c t = numV (atO t c) := by
  unfold atV atO
  split <;> rfl
theorem atO_fit {c : List Buck} {t : Rat} (hc : c ≠ []) : fitO (atO t c) := fun r h => by
  unfold atO at h
  split at h
  · cases h
    exact minV_fit (by assumption) hc
  · cases h
def totO (cs : List (List Buck)) (t : Rat) : Option Rat := sumO (cs.map (atO t))
def rateO (cs : List (List Buck)) : Option Rat := sumO (cs.map fun c => some (rateL c))
/-- The slice holds the curves cs. -/
structure isL (A : Option Addr) (cs : List (List Buck)) (W : World) : Prop where
  ok : ∀ c ∈ cs, 1 ≤ c.length ∧ c.length ≤ 32
  vs : ∃ vs : List Value, vs.length = cs.length ∧ isV A vs W ∧ ∀ (j : Nat) (v : Value) (c : List Buck), vs[j]? = some v → cs[j]? = some c → ∃ B cap, v = .slice B c.length cap ∧ isC B cap c W
theorem cl_isL (A : Option Addr) (cs : List (List Buck)) : Cl (isL A cs) := fun W W' h hb => by
  obtain ⟨h1, vs, h2, h3, h4⟩ := h
  exact ⟨h1, vs, h2, cl_isV A vs W W' h3 hb, fun j v c k1 k2 => by obtain ⟨B, cap, e, hi⟩ := h4 j v c k1 k2; exact ⟨B, cap, e, cl_isC B cap c W W' hi hb⟩⟩

set_option maxRecDepth 100000 in
set_option maxHeartbeats 2000000 in
theorem total1_any (B : Option Addr) (cap : Nat) (c : List Buck) (t : Rat) (bt : Nat) (h1 : 1 ≤ c.length) (h2 : c.length ≤ 32) (ht : Fit t) (ht0 : 0 ≤ t) (w : World) (hI : isC B cap c w) (hT : Has w bt t.num t.den) :
    Calls Tryz.prog 107 #[.slice B c.length cap, .pointer (some ⟨bt, 0, none⟩)] w fun e w' => e = .returned (ratV (numV (atO t c))) ∧ Below w.heap.size w w' := by
  have hB0 := (Below.refl w.heap.size w).alloc (Nat.le_refl _) (.cells #[.int .i64 0, .int .i64 0] 25)
  have HA := at_ok B cap c t h1 h2 ht ht0 _ (cl_isC B cap c w _ hI hB0)
  rw [atV_o] at HA
  obtain ⟨t0, t1, t2⟩ := hT.alloc (.cells #[.int .i64 0, .int .i64 0] 25)
  generalize numV (atO t c) = r at HA ⊢
  obtain ⟨rn, rd, re⟩ := r
  simp only [ratV] at HA
  generalize t.num = tn at HA t1
  generalize (t.den : Int) = td at HA t2
  have HA := Lib.hid HA
  clear hI hT
  go_enter Tryz.func107, Tryz.ntmps107
  go_wp2_with fail
  (with_reducible refine (HA.out).mono ?_); rintro _ w1 ⟨rfl, hb1⟩
  have bR := (BoxN.new w 25 #[.int .i64 0, .int .i64 0]).below hb1 (by simp)
  have f0 := bR.frozen 0
  have f1 := bR.frozen 1
  have r0 := bR.cell 0
  have r1 := bR.cell 1
  have kR := bR.lt
  have hB := hB0.trans (hb1.mono hB0.size)
  clear t0 t1 t2 hb1
  go_wp2
  refine bodyPost_ret (v := ratV (rn, rd, re)) (by simp [results, Tryz.results107, go_sem, ratV, r0, r1]) rfl ⟨rfl, ?_⟩
  (have hBs := hB.size; (try simp only [World.size_alloc] at hBs); repeat' (first | (with_reducible exact hB) | (with_reducible exact hBs) | (with_reducible refine Below.drew ?_) | (with_reducible refine below_drewN ?_ _) | (with_reducible refine Below.setCell ?_ ?_ _) | (with_reducible refine Below.alloc ?_ ?_ _) | go_size | omega | (simp; omega)))

set_option maxRecDepth 100000 in
set_option maxHeartbeats 2000000 in
theorem total_any (A : Option Addr) (cap : Nat) (cs : List (List Buck)) (t : Rat) (hl : cs.length ≤ 1048576) (ht : Fit t) (ht0 : 0 ≤ t) (w : World) (hI : isL A cs w) :
    Calls Tryz.prog 69 #[.slice A cs.length cap, .agg #[.int .i64 t.num, .int .i64 t.den]] w fun e w' => e = .returned (ratV (numV (totO cs t))) ∧ Below w.heap.size w w' := by
  obtain ⟨hok, vs, hvl, hv, hvc⟩ := hI
  have hB0 := ((Below.refl w.heap.size w).alloc (Nat.le_refl _) (.cells #[.int .i64 t.num, .int .i64 t.den] 25)).alloc (by simp) (.cells #[.int .i64 0, .int .i64 0] 25)
  have hT := (Has.new w t.num t.den 25).alloc (.cells #[.int .i64 0, .int .i64 0] 25)
  have bR := BoxN.new (w.alloc (.cells #[.int .i64 t.num, .int .i64 t.den] 25)) 25 #[.int .i64 0, .int .i64 0]
  rw [World.size_alloc] at bR
  have HS := sum_tot A cap vs (cs.map (atO t)) (by simpa using hvl) (by omega) (fun o ho => by
    obtain ⟨c, hc, rfl⟩ := List.mem_map.1 ho
    exact atO_fit (by have := (hok c hc).1; intro h; subst h; simp at this)) w.heap.size _ (cl_isV A vs w _ hv hB0) (fun j v o hj ho W hW => by
    rw [List.getElem?_map] at ho
    obtain ⟨c, hc, rfl⟩ := Option.map_eq_some_iff.1 ho
    obtain ⟨B, cb, rfl, hi⟩ := hvc j v c hj hc
    obtain ⟨k1, k2⟩ := hok c (List.mem_of_getElem? hc)
    exact total1_any B cb c t w.heap.size k1 k2 ht ht0 W (cl_isC B cb c w W hi (hB0.trans (hW.mono hB0.size))) (hT.keep hW))
  rw [hvl] at HS
  unfold totO
  generalize numV (sumO (cs.map (atO t))) = r at HS ⊢
  obtain ⟨rn, rd, re⟩ := r
  simp only [ratV] at HS
  generalize t.num = tn at HS hB0 bR
  generalize (t.den : Int) = td at HS hB0 bR
  have HS := Lib.hid HS
  clear hT hv hvc hok hvl
  go_enter Tryz.func69, Tryz.ntmps69
  go_wp2_with fail
  (with_reducible refine (HS.out).mono ?_); rintro _ w1 ⟨rfl, hb1⟩
  have bR1 := bR.below hb1 (by simp)
  have f0 := bR1.frozen 0
  have f1 := bR1.frozen 1
  have r0 := bR1.cell 0
  have r1 := bR1.cell 1
  have kR := bR1.lt
  have hB := hB0.trans (hb1.mono hB0.size)
  clear hb1
  go_wp2
  refine bodyPost_ret (v := ratV (rn, rd, re)) (by simp [results, Tryz.results69, go_sem, ratV, r0, r1]) rfl ⟨rfl, ?_⟩
  (have hBs := hB.size; (try simp only [World.size_alloc] at hBs); repeat' (first | (with_reducible exact hB) | (with_reducible exact hBs) | (with_reducible refine Below.drew ?_) | (with_reducible refine below_drewN ?_ _) | (with_reducible refine Below.setCell ?_ ?_ _) | (with_reducible refine Below.alloc ?_ ?_ _) | go_size | omega | (simp; omega)))

/-- The sum of the rates. -/
theorem rates_any (A : Option Addr) (cap : Nat) (cs : List (List Buck)) (hl : cs.length ≤ 1048576) (w : World) (hI : isL A cs w) :
    Calls Tryz.prog 106 #[.slice A cs.length cap, .func (.func 10) #[] #[]] w fun e w' => e = .returned (ratV (numV (rateO cs))) ∧ Below w.heap.size w w' := by
  obtain ⟨hok, vs, hvl, hv, hvc⟩ := hI
  have HS := sum_rate A cap vs (cs.map fun c => some (rateL c)) (by simpa using hvl) (by omega) (fun o ho => by
    obtain ⟨c, hc, rfl⟩ := List.mem_map.1 ho
    intro r h
    cases h
    exact (minB c).hr) w hv (fun j v o hj ho W hW => by
    rw [List.getElem?_map] at ho
    obtain ⟨c, hc, rfl⟩ := Option.map_eq_some_iff.1 ho
    obtain ⟨B, cb, rfl, hi⟩ := hvc j v c hj hc
    obtain ⟨k1, k2⟩ := hok c (List.mem_of_getElem? hc)
    exact rate_ok B cb c k1 k2 W (cl_isC B cb c w W hi hW))
  rw [hvl] at HS
  exact HS

/-- A server is valid. -/
def srvB (rn rd ln ld : Int) : Bool := (vldB rn rd && decide (0 < rn)) && (vldB ln ld && decide (0 ≤ ln))
set_option maxHeartbeats 1000000 in
theorem server_any (rn rd ln ld : Int) (h1 : I64 rn) (h2 : I64 rd) (h3 : I64 ln) (h4 : I64 ld) (w : World) :
    Calls Tryz.prog 32 #[.agg #[.int .i64 rn, .int .i64 rd, .int .i64 ln, .int .i64 ld]] w fun e w' => e = .returned (.bool (srvB rn rd ln ld)) ∧ Below w.heap.size w w' := by
  have HV : Hid (∀ W : World, _) := fun W => valid_any rn rd W h1.1 h1.2 h2.1 h2.2
  have HW : Hid (∀ W : World, _) := fun W => valid_any ln ld W h3.1 h3.2 h4.1 h4.2
  have hB0 := (Below.refl w.heap.size w).alloc (Nat.le_refl _) (.cells #[.int .i64 rn, .int .i64 rd, .int .i64 ln, .int .i64 ld] 52)
  have bS := BoxN.new w 52 #[.int .i64 rn, .int .i64 rd, .int .i64 ln, .int .i64 ld]
  unfold srvB
  generalize vldB rn rd = b1 at HV ⊢
  generalize vldB ln ld = b2 at HW ⊢
  go_enter Tryz.func32, Tryz.ntmps32
  go_wp2_with fail
  (with_reducible refine (HV.out _).mono ?_); rintro _ w1 ⟨rfl, hb1⟩
  have bS1 := bS.below hb1 (by simp)
  have s0 := bS1.cell 0
  have s1 := bS1.cell 1
  have s2 := bS1.cell 2
  have s3 := bS1.cell 3
  have hB1 := hB0.trans (hb1.mono hB0.size)
  clear hb1 bS hB0 HV
  cases b1
  · go_wp2
    go_ret
    exact ⟨rfl, hB1⟩
  by_cases hr : 0 < rn
  · have hr1 : Hid (decide (0 < rn) = true) := decide_eq_true hr
    go_wp2_with fail
    (with_reducible refine (HW.out _).mono ?_); rintro _ w2 ⟨rfl, hb2⟩
    have bS2 := bS1.below hb2 bS1.lt
    have hB2 := hB1.trans (hb2.mono hB1.size)
    have u0 := bS2.cell 0
    have u1 := bS2.cell 1
    have u2 := bS2.cell 2
    have u3 := bS2.cell 3
    clear s0 s1 s2 s3 hb2 hB1 HW bS1 bS2
    cases b2
    · go_wp2
      go_ret
      exact ⟨by rw [hr1.out]; rfl, hB2⟩
    · by_cases hl : 0 ≤ ln
      · have hl1 : Hid (decide (0 ≤ ln) = true) := decide_eq_true hl
        go_wp2
        go_ret
        exact ⟨by rw [hr1.out, hl1.out]; rfl, hB2⟩
      · have hl1 : Hid (decide (0 ≤ ln) = false) := decide_eq_false hl
        have z := hl1.out
        go_wp2
        go_ret
        exact ⟨by rw [hr1.out, hl1.out]; rfl, hB2⟩
  · have hr1 : Hid (decide (0 < rn) = false) := decide_eq_false hr
    have z := hr1.out
    go_wp2
    go_ret
    exact ⟨by rw [hr1.out]; rfl, hB1⟩
end Go.Proofs.YtbncfknjgldcbaaGreat
/- slices.IndexFunc and ContainsFunc, over calculus.prepare$1. -/
namespace Go.Proofs.YtbncfknjgldcbaaGreat
open Go.RowKit Go.Joins Go.Shelf Go.Sort Num

/-- The slice holds curves as they may come in. -/
structure isLR (A : Option Addr) (cs : List (List Bk)) (W : World) : Prop where
  bd : ∀ c ∈ cs, c.length ≤ 1048576 ∧ ∀ x ∈ c, x.bd64
  vs : ∃ vs : List Value, vs.length = cs.length ∧ isV A vs W ∧ ∀ (j : Nat) (v : Value) (c : List Bk), vs[j]? = some v → cs[j]? = some c → ∃ B cap, v = .slice B c.length cap ∧ SlR W.heap.size W (.slice B c.length cap) c
theorem cl_isLR (A : Option Addr) (cs : List (List Bk)) : Cl (isLR A cs) := fun W W' h hb => by
  obtain ⟨h1, vs, h2, h3, h4⟩ := h
  exact ⟨h1, vs, h2, cl_isV A vs W W' h3 hb, fun j v c k1 k2 => by obtain ⟨B, cap, e, hi⟩ := h4 j v c k1 k2; exact ⟨B, cap, e, (hi.below hb (Nat.le_refl _)).more hb.size⟩⟩

set_option maxHeartbeats 1000000 in
theorem prep1_any (A : Option Addr) (cap : Nat) (c : List Bk) (hlen : c.length ≤ 1048576) (hbd : ∀ x ∈ c, x.bd64) (w : World) (hI : SlR w.heap.size w (.slice A c.length cap) c) :
    Calls Tryz.prog 104 #[.slice A c.length cap] w fun e w' => e = .returned (.bool (!valC c)) ∧ Below w.heap.size w w' := by
  have HV := valid_c A cap c hlen hbd w hI
  generalize valC c = b at HV ⊢
  have HV := Lib.hid HV
  clear hI hbd
  go_enter Tryz.func104, Tryz.ntmps104
  go_wp2_with fail
  (with_reducible refine (HV.out).mono ?_); rintro _ w1 ⟨rfl, hb1⟩
  have hB := hb1
  go_wp2
  go_ret
  exact ⟨rfl, hB⟩

set_option maxRecDepth 100000 in
set_option maxHeartbeats 2000000 in
theorem index_any (A : Option Addr) (cap : Nat) (vs : List Value) (bs : List Bool) (hlen : vs.length = bs.length) (hl : vs.length ≤ 1048576) (w : World) (hI : isV A vs w)
    (HN : ∀ (j : Nat) (v : Value) (b : Bool), vs[j]? = some v → bs[j]? = some b → ∀ W : World, Below w.heap.size w W → Calls Tryz.prog 104 #[v] W fun e w' => e = .returned (.bool b) ∧ Below W.heap.size W w') :
    Calls Tryz.prog 141 #[.slice A vs.length cap, .func (.func 104) #[] #[]] w fun e w' => ∃ i : Int, e = .returned (.int .i64 i) ∧ ((-1 ≤ i ∧ i ≤ 1048576) ∧ decide (0 ≤ i) = bs.any id) ∧ Below w.heap.size w w' := by
  replace HN := Lib.hid HN
  replace hI := Lib.hid hI
  replace hlen := Lib.hid hlen
  go_enter Tryz.func141, Tryz.ntmps141
  go_wp2_with fail
  go_loopw [8] (fun i wr => ∃ k : Nat, k ≤ vs.length ∧ i = .int .i64 ↑k ∧ Hid ((bs.take k).any id = false) ∧ Below w.heap.size w wr)
    (fun i _ => vs.length - (intOf i).toNat)
  case atStart => exact ⟨0, Nat.zero_le _, rfl, rfl, Below.refl _ _⟩
  case round =>
    obtain ⟨k, hk, rfl, hno, hB⟩ := hrel
    by_cases hlt : k < vs.length
    · have hv : vs[k]? = some vs[k] := List.getElem?_eq_getElem hlt
      obtain ⟨v, hve⟩ : ∃ v, vs[k] = v := ⟨_, rfl⟩
      rw [hve] at hv
      obtain ⟨b', hb'⟩ : ∃ b', bs[k]? = some b' := ⟨_, List.getElem?_eq_getElem (by have := hlen.out; omega)⟩
      obtain ⟨b, off, rfl, hb, hr⟩ := hI.out (by intro h; subst h; simp at hlt)
      have c0 := (hB.cell (p := ⟨b, off + k, none⟩) hb).trans (hr k v hv)
      have hbz := Nat.lt_of_lt_of_le hb hB.size
      have hC := Lib.hid (HN.out k v b' hv hb' wr hB)
      have hstep : Hid ((bs.take (k + 1)).any id = b') := by unfold Hid; rw [take_succ' hb', List.any_append, hno.out]; simp
      have hyes : Hid (b' = true → bs.any id = true) := fun h => by rw [List.any_eq_true]; exact ⟨b', List.mem_of_getElem? hb', by simpa using h⟩
      clear hv hve hb' hr hno
      go_wp2_with fail
      (with_reducible refine (hC.out).mono ?_); rintro _ w1 ⟨rfl, hb1⟩
      have hB1 := hB.trans (hb1.mono hB.size)
      clear c0 hb1
      cases b'
      · go_wp2
        go_roundw
        case rel => exact ⟨k + 1, by omega, by go_num, hstep.out, hB1⟩
        case measure => simp [intOf]; omega
      · have hy := Lib.hid (hyes.out rfl)
        go_wp2
        go_ret
        exact ⟨↑k, rfl, ⟨⟨by omega, by omega⟩, by rw [hy.out]; simp⟩, hB1⟩
    · obtain rfl : k = vs.length := by omega
      have hres : Hid (bs.any id = false) := by
        have := hno.out
        rwa [hlen.out, List.take_length] at this
      go_wp2_with fail
      go_ret
      exact ⟨-1, rfl, ⟨⟨by omega, by omega⟩, by rw [hres.out]; simp⟩, hB⟩

set_option maxHeartbeats 1000000 in
theorem bad_any (A : Option Addr) (cap : Nat) (cs : List (List Bk)) (hl : cs.length ≤ 1048576) (w : World) (hI : isLR A cs w) :
    Calls Tryz.prog 105 #[.slice A cs.length cap, .func (.func 104) #[] #[]] w fun e w' => e = .returned (.bool (!cs.all valC)) ∧ Below w.heap.size w w' := by
  obtain ⟨hbd, vs, hvl, hv, hvc⟩ := hI
  have HS := index_any A cap vs (cs.map fun c => !valC c) (by simpa using hvl) (by omega) w hv (fun j v b hj hb W hW => by
    rw [List.getElem?_map] at hb
    obtain ⟨c, hc, rfl⟩ := Option.map_eq_some_iff.1 hb
    obtain ⟨B, cb, rfl, hi⟩ := hvc j v c hj hc
    obtain ⟨k1, k2⟩ := hbd c (List.mem_of_getElem? hc)
    exact prep1_any B cb c k1 k2 W ((hi.below hW (Nat.le_refl _)).more hW.size))
  rw [hvl, show (cs.map fun c => !valC c).any id = !cs.all valC by rw [List.any_map, List.not_all_eq_any_not]; rfl] at HS
  generalize (!cs.all valC) = b at HS ⊢
  have HS := Lib.hid HS
  clear hbd hv hvc hvl
  go_enter Tryz.func105, Tryz.ntmps105
  go_wp2_with fail
  (with_reducible refine (HS.out).mono ?_); rintro _ w1 ⟨i, rfl, ⟨⟨h1, h2⟩, h3⟩, hb1⟩
  have hB := hb1
  have h3 := Lib.hid h3
  go_wp2
  go_ret
  exact ⟨by rw [← h3.out]; rfl, hB⟩
end Go.Proofs.YtbncfknjgldcbaaGreat
