/- Merged texts: CLawN, CChSec, CTopB, CSmC, CChSec2. -/
import Derived.Test.YtbncfknjgldcbaaGreatM21
import Derived.Test.YtbncfknjgldcbaaGreatM24
import Derived.Test.YtbncfknjgldcbaaGreatM23
import Derived.Test.YtbncfknjgldcbaaGreatM9
import Derived.Test.YtbncfknjgldcbaaGreatM22
import Derived.Test.YtbncfknjgldcbaaGreatM18
/- Calls of package calculus in the words of the laws. -/
namespace Go.Proofs.YtbncfknjgldcbaaGreat
open Go.RowKit Go.Joins Go.Shelf Go.Sort Num

theorem isL.one {A : Option Addr} {ca : Nat} {c : List Buck} {W : World} (hA : isC A ca c W) (hc : 1 ≤ c.length ∧ c.length ≤ 32) (t : TypeId) (n : Nat) (hn : c.length = n) :
    isL (some ⟨W.heap.size, 0, none⟩) [c] (W.alloc (.cells #[.slice A n ca] t)) := by
  subst hn
  have hb : Below W.heap.size W (W.alloc (.cells #[.slice A c.length ca] t)) := (Below.refl _ _).alloc (Nat.le_refl _) _
  refine ⟨fun x hx => ?_, [.slice A c.length ca], rfl, isV.lit W _ _ t rfl, fun j v x hv hx => ?_⟩
  · rw [List.mem_singleton.1 hx]; exact hc
  · match j with
    | 0 => simp only [List.getElem?_cons_zero, Option.some.injEq] at hv hx; subst hv hx; exact ⟨A, ca, rfl, cl_isC A ca c W _ hA hb⟩
    | j + 1 => simp at hv
/-- The first bucket alone. -/
theorem isC.head {A : Option Addr} {cap : Nat} {x : Buck} {l : List Buck} {W : World} (h : isC A cap (x :: l) W) : isC A cap [x] W := by
  obtain ⟨A', cap', e, h'⟩ := h
  simp only [Value.slice.injEq] at e
  obtain ⟨rfl, -, rfl⟩ := e
  refine ⟨A, cap, rfl, fun _ => ?_⟩
  obtain ⟨b, off, e1, e2, e3⟩ := h' (by simp)
  refine ⟨b, off, e1, e2, fun k y hk => ?_⟩
  match k with
  | 0 => exact e3 0 y (by simpa using hk)
  | k + 1 => simp at hk
section
variable {cs : List (List Buck)} {r L : Rat}
theorem delay_w (hl : cs.length ≤ 32) (hr : Fit r) (hr0 : 0 < r) (hL : Fit L) (hL0 : 0 ≤ L) (n : Nat) (hn : cs.length = n) (rn rd ln ld a b c : Int) (h1 : r.num = rn) (h2 : (r.den : Int) = rd) (h3 : L.num = ln) (h4 : (L.den : Int) = ld) (hv : delayV cs r L = (a, b, c)) (A : Option Addr) (cap : Nat) (W : World) (hI : isL A cs W) :
    Calls Tryz.prog 26 #[.slice A n cap, .agg #[.int .i64 rn, .int .i64 rd, .int .i64 ln, .int .i64 ld]] W fun e w' => e = .returned (.tuple #[.agg #[.int .i64 a, .int .i64 b], .int .i64 c]) ∧ Below W.heap.size W w' := by
  subst hn h1 h2 h3 h4
  have h := delay_ok A cap cs hl r L hr hr0 hL hL0 W hI
  rw [hv] at h
  exact h
theorem back_w (hl : cs.length ≤ 32) (hr : Fit r) (hr0 : 0 < r) (hL : Fit L) (hL0 : 0 ≤ L) (n : Nat) (hn : cs.length = n) (rn rd ln ld a b c : Int) (h1 : r.num = rn) (h2 : (r.den : Int) = rd) (h3 : L.num = ln) (h4 : (L.den : Int) = ld) (hv : backV cs r L hL = (a, b, c)) (A : Option Addr) (cap : Nat) (W : World) (hI : isL A cs W) :
    Calls Tryz.prog 28 #[.slice A n cap, .agg #[.int .i64 rn, .int .i64 rd, .int .i64 ln, .int .i64 ld]] W fun e w' => e = .returned (.tuple #[.agg #[.int .i64 a, .int .i64 b], .int .i64 c]) ∧ Below W.heap.size W w' := by
  subst hn h1 h2 h3 h4
  have h := back_ok A cap cs hl r L hr hr0 hL hL0 W hI
  rw [hv] at h
  exact h
end
theorem make_w (n d : Int) (h1 : -1073741824 ≤ n ∧ n ≤ 1073741824) (h2 : 1 ≤ d ∧ d ≤ 1073741824) (W : World) :
    Calls Tryz.prog 40 #[.int .i64 n, .int .i64 d] W fun e w' => e = .returned (.tuple #[.agg #[.int .i64 (Rat.divInt n d).num, .int .i64 (Rat.divInt n d).den], .int .i64 0]) ∧ Below W.heap.size W w' := by
  have h := make_any n d W (by omega) (by omega) (by omega) (by omega)
  rw [mk_fit h1 h2] at h
  exact h
/-- The laws' rates. -/
theorem rate_fit {n e : Int} (hn : 1 ≤ n ∧ n ≤ 160) (he : 8 ≤ e ∧ e ≤ 15) : Fit (Rat.divInt n e) ∧ 0 < Rat.divInt n e := by
  refine ⟨bd_le (bd_divInt (A := 160) (B := 15) (by omega) (by omega) (by omega)) (by decide) (by decide), ?_⟩
  exact (Mx.dv_pos (by omega)).2 (by omega)
theorem int_fit {z : Int} (h : -1073741824 ≤ z ∧ z ≤ 1073741824) : Fit (z : Rat) := by
  constructor
  · show z.natAbs ≤ 1073741824; omega
  · exact (by decide : (1 : Nat) ≤ 1073741824)
end Go.Proofs.YtbncfknjgldcbaaGreat
/- The delay of a single bucket that was shifted: small or too large, no other error. -/
namespace Go.Proofs.YtbncfknjgldcbaaGreat.Mx
open Go.RowKit Go.Joins Go.Shelf Go.Sort Num BrkLaw

theorem norm_one (y : Buck) : normL [y] = [y] := nf_uniq ⟨List.pairwise_singleton _ _, fun _ h => h, fun x hx => ⟨x, hx, x.le_refl⟩⟩
theorem brk_one (y : Buck) : brkL (normL [y]) = [] := by
  rw [norm_one]
  unfold brkL twosL
  simp only [List.map_nil, twosL, List.append_nil, Aw3.sort_nil]
  rfl
theorem pts_one (y : Buck) : ptsL [[y]] = [] := by unfold ptsL; rw [List.flatMap_cons, brk_one]; rfl
theorem brks_one (y : Buck) : brksOk [[y]] := fun c hc p hp => by
  rw [List.mem_singleton.1 hc, norm_one] at hp
  simp [twosL] at hp
theorem rate_one (y : Buck) : rateO [[y]] = some y.r := by
  show addO (some 0) (some y.r) = _
  rw [addO_some, Rat.zero_add, if_pos y.hr]
theorem prep_one {y : Buck} {q : Rat} (h : y.r ≤ q) : prepE [[y]] q = 0 := by
  unfold prepE
  rw [if_pos (brks_one y), rate_one]
  exact if_neg (Rat.not_lt.2 h)
theorem great_fit {f : Int → Option Rat} (hf : ∀ z, fitO (f z)) {zs : List Int} {m : Rat} (h : greatZ f zs = some m) : Fit m := by
  rcases (great_some h).2.2 with rfl | ⟨z, _, h⟩
  · constructor <;> decide
  · exact hf z m h
theorem second_is {y : Buck} {q L : Rat} (h : y.r ≤ q) : ∃ o : Option Rat, delayV [[y]] q L = numV o ∧ ∀ m, o = some m → Fit m ∧ (0 ≤ m ∧ y.b / q + L ≤ m) := by
  unfold delayV
  rw [prep_one h, if_pos rfl]
  refine ⟨_, rfl, fun m hm => ⟨great_fit (fun z => delayO_fit _ _ _ _) hm, (great_some hm).2.1, ?_⟩⟩
  obtain ⟨v, hv, hvm⟩ := (great_some hm).1 0 ((ticks_mem _ _).2 (.inl rfl))
  rw [delayO_some hv, tot_one, show ((0 : Int) : Rat) = 0 from rfl] at hvm
  have e : y.b + y.r * 0 = y.b := by grind
  rw [e] at hvm
  grind
end Go.Proofs.YtbncfknjgldcbaaGreat.Mx
/- calculus.Delay and Backlog, of arguments that are not valid. -/
namespace Go.Proofs.YtbncfknjgldcbaaGreat
open Go.RowKit Go.Joins Go.Shelf Go.Sort Num

set_option maxRecDepth 100000 in
set_option maxHeartbeats 2000000 in
theorem delay_bad (A : Option Addr) (cap : Nat) (cs : List (List Bk)) (rn rd ln ld : Int) (h1 : I64 rn) (h2 : I64 rd) (h3 : I64 ln) (h4 : I64 ld) (w : World) (hI : cs.length ≤ 32 → isLR A cs w) (hbad : cs.length ≤ 32 → srvB rn rd ln ld = true → cs.all valC = true → False) :
    Calls Tryz.prog 26 #[.slice A cs.length cap, .agg #[.int .i64 rn, .int .i64 rd, .int .i64 ln, .int .i64 ld]] w fun e w' => e = .returned (ratV (0, 0, 2)) ∧ Below w.heap.size w w' := by
  have hB0 := (((Below.refl w.heap.size w).alloc (Nat.le_refl _) (.cells #[.slice A cs.length cap] 50)).alloc (by simp) (.cells #[.int .i64 rn, .int .i64 rd, .int .i64 ln, .int .i64 ld] 52)).alloc (by simp; omega) (.cells #[.int .i64 0, .int .i64 0] 25)
  have bL := ((BoxN.new w 50 #[.slice A cs.length cap]).alloc (.cells #[.int .i64 rn, .int .i64 rd, .int .i64 ln, .int .i64 ld] 52)).alloc (.cells #[.int .i64 0, .int .i64 0] 25)
  have bS := (BoxN.new (w.alloc (.cells #[.slice A cs.length cap] 50)) 52 #[.int .i64 rn, .int .i64 rd, .int .i64 ln, .int .i64 ld]).alloc (.cells #[.int .i64 0, .int .i64 0] 25)
  rw [World.size_alloc] at bS
  have bR := BoxN.new ((w.alloc (.cells #[.slice A cs.length cap] 50)).alloc (.cells #[.int .i64 rn, .int .i64 rd, .int .i64 ln, .int .i64 ld] 52)) 25 #[.int .i64 0, .int .i64 0]
  rw [World.size_alloc, World.size_alloc] at bR
  have HP := Lib.hid (prep_bad A cap cs rn rd ln ld h1 h2 h3 h4 _ (fun h => cl_isLR A cs w _ (hI h) hB0) hbad)
  have l0 := bL.cell 0
  have s0 := bS.cell 0
  have s1 := bS.cell 1
  have s2 := bS.cell 2
  have s3 := bS.cell 3
  clear hI hbad
  go_enter Tryz.func26, Tryz.ntmps26
  go_wp2_with fail
  (with_reducible refine (HP.out).mono ?_); rintro _ w1 ⟨rfl, hb1⟩
  have bR1 := bR.below hb1 bR.lt
  have hB := hB0.trans (hb1.mono hB0.size)
  have r0 := bR1.cell 0
  have r1 := bR1.cell 1
  have f0 := bR1.frozen 0
  have f1 := bR1.frozen 1
  have kR := bR1.lt
  clear hb1 bL bS bR l0 s0 s1 s2 s3
  go_wp2
  refine bodyPost_ret (v := ratV (0, 0, 2)) (by simp [results, Tryz.results26, go_sem, ratV, r0, r1]) rfl ⟨rfl, ?_⟩
  (have hBs := hB.size; (try simp only [World.size_alloc] at hBs); repeat' (first | (with_reducible exact hB) | (with_reducible exact hBs) | (with_reducible refine Below.drew ?_) | (with_reducible refine below_drewN ?_ _) | (with_reducible refine Below.setCell ?_ ?_ _) | (with_reducible refine Below.alloc ?_ ?_ _) | go_size | omega | (simp; omega)))

set_option maxRecDepth 100000 in
set_option maxHeartbeats 2000000 in
theorem back_bad (A : Option Addr) (cap : Nat) (cs : List (List Bk)) (rn rd ln ld : Int) (h1 : I64 rn) (h2 : I64 rd) (h3 : I64 ln) (h4 : I64 ld) (w : World) (hI : cs.length ≤ 32 → isLR A cs w) (hbad : cs.length ≤ 32 → srvB rn rd ln ld = true → cs.all valC = true → False) :
    Calls Tryz.prog 28 #[.slice A cs.length cap, .agg #[.int .i64 rn, .int .i64 rd, .int .i64 ln, .int .i64 ld]] w fun e w' => e = .returned (ratV (0, 0, 2)) ∧ Below w.heap.size w w' := by
  have hB0 := (((Below.refl w.heap.size w).alloc (Nat.le_refl _) (.cells #[.slice A cs.length cap] 50)).alloc (by simp) (.cells #[.int .i64 rn, .int .i64 rd, .int .i64 ln, .int .i64 ld] 52)).alloc (by simp; omega) (.cells #[.int .i64 0, .int .i64 0] 25)
  have bL := ((BoxN.new w 50 #[.slice A cs.length cap]).alloc (.cells #[.int .i64 rn, .int .i64 rd, .int .i64 ln, .int .i64 ld] 52)).alloc (.cells #[.int .i64 0, .int .i64 0] 25)
  have bS := (BoxN.new (w.alloc (.cells #[.slice A cs.length cap] 50)) 52 #[.int .i64 rn, .int .i64 rd, .int .i64 ln, .int .i64 ld]).alloc (.cells #[.int .i64 0, .int .i64 0] 25)
  rw [World.size_alloc] at bS
  have bR := BoxN.new ((w.alloc (.cells #[.slice A cs.length cap] 50)).alloc (.cells #[.int .i64 rn, .int .i64 rd, .int .i64 ln, .int .i64 ld] 52)) 25 #[.int .i64 0, .int .i64 0]
  rw [World.size_alloc, World.size_alloc] at bR
  have HP := Lib.hid (prep_bad A cap cs rn rd ln ld h1 h2 h3 h4 _ (fun h => cl_isLR A cs w _ (hI h) hB0) hbad)
  have l0 := bL.cell 0
  have s0 := bS.cell 0
  have s1 := bS.cell 1
  have s2 := bS.cell 2
  have s3 := bS.cell 3
  clear hI hbad
  go_enter Tryz.func28, Tryz.ntmps28
  go_wp2_with fail
  (with_reducible refine (HP.out).mono ?_); rintro _ w1 ⟨rfl, hb1⟩
  have bR1 := bR.below hb1 bR.lt
  have hB := hB0.trans (hb1.mono hB0.size)
  have r0 := bR1.cell 0
  have r1 := bR1.cell 1
  have f0 := bR1.frozen 0
  have f1 := bR1.frozen 1
  have kR := bR1.lt
  clear hb1 bL bS bR l0 s0 s1 s2 s3
  go_wp2
  refine bodyPost_ret (v := ratV (0, 0, 2)) (by simp [results, Tryz.results28, go_sem, ratV, r0, r1]) rfl ⟨rfl, ?_⟩
  (have hBs := hB.size; (try simp only [World.size_alloc] at hBs); repeat' (first | (with_reducible exact hB) | (with_reducible exact hBs) | (with_reducible refine Below.drew ?_) | (with_reducible refine below_drewN ?_ _) | (with_reducible refine Below.setCell ?_ ?_ _) | (with_reducible refine Below.alloc ?_ ?_ _) | go_size | omega | (simp; omega)))

end Go.Proofs.YtbncfknjgldcbaaGreat
/- The law package's Small once more: its row is as long as its capacity allows. -/
namespace Go.Proofs.YtbncfknjgldcbaaGreat.SmC
open Go.RowKit Go.Joins Go.Shelf Go.Sort Num

end Go.Proofs.YtbncfknjgldcbaaGreat.SmC
/- Delay of no curve; Add of a number and no number: errors. -/
namespace Go.Proofs.YtbncfknjgldcbaaGreat.ChLaw
open Go.RowKit Go.Joins Go.Shelf Go.Sort Num Mx

theorem isL_one {A : Option Addr} {ca : Nat} {c : List Buck} {W : World} {g : Nat} (hg : W.heap.size = g) (hA : isC A ca c W) (hc : 1 ≤ c.length ∧ c.length ≤ 32) (t : TypeId) (n : Nat) (hn : c.length = n) :
    isL (some ⟨g, 0, none⟩) [c] (W.alloc (.cells #[.slice A n ca] t)) := by
  subst hg
  exact isL.one hA hc t n hn
theorem shift_one {A : Option Addr} {ca : Nat} {x : Buck} (f : Rat) (hf : Fit f) (hf0 : 0 ≤ f) (W : World) (hi : isC A ca [x] W) :
    Calls Tryz.prog 21 #[.slice A 1 ca, .agg #[.int .i64 f.num, .int .i64 (f.den : Int)]] W fun e w' => ((okv x f → ∃ v, e = .returned (.tuple #[v, .int .i64 0]) ∧ Own4 W.heap.size w' v [shiftB f x]) ∧ ((¬ okv x f) → e = .returned (.tuple #[.slice none 0 0, .int .i64 3]))) ∧ Below W.heap.size W w' := by
  refine (shift_ok A ca [x] f (by simp) (by simp) hf hf0 W hi).mono fun e w' ⟨h1, h2, h3⟩ => ⟨⟨fun h => ?_, fun h => h2 (by simpa using h)⟩, h3⟩
  have := h1 (by simpa using h)
  rw [List.map_cons, List.map_nil, norm_one] at this
  exact this
theorem isLR_nil (W : World) (t : TypeId) : isLR (some ⟨W.heap.size, 0, none⟩) [[]] (W.alloc (.cells #[.slice none 0 0] t)) := by
  refine ⟨fun c hc => by rw [List.mem_singleton.1 hc]; exact ⟨by decide, fun _ h => by cases h⟩, [.slice none 0 0], rfl, isV.lit W _ _ t rfl, fun j v c hv hc => ?_⟩
  match j with
  | 0 => simp only [List.getElem?_cons_zero, Option.some.injEq] at hv hc; subst hv hc; exact ⟨none, 0, rfl, none, 0, rfl, fun h => absurd rfl h⟩
  | j + 1 => simp at hv
theorem delay_nil (q : Rat) (fq : Fit q) (v : Int) (hv : 0 ≤ v ∧ v ≤ 255) (qn qd : Int) (h1 : q.num = qn) (h2 : (q.den : Int) = qd) (W : World) :
    Calls Tryz.prog 26 #[.slice (some ⟨W.heap.size, 0, none⟩) 1 1, .agg #[.int .i64 qn, .int .i64 qd, .int .i64 v, .int .i64 1]] (W.alloc (.cells #[.slice none 0 0] 23)) fun e w' => e = .returned (.tuple #[.agg #[.int .i64 0, .int .i64 0], .int .i64 2]) ∧ Below (W.heap.size + 1) (W.alloc (.cells #[.slice none 0 0] 23)) w' := by
  subst h1 h2
  have hb := fit_bd fq
  have h := delay_bad (some ⟨W.heap.size, 0, none⟩) 1 [[]] q.num q.den v 1 (by constructor <;> omega) (by constructor <;> omega) (by constructor <;> omega) (by decide) (W.alloc (.cells #[.slice none 0 0] 23)) (fun _ => isLR_nil W _) (fun _ _ h => by simp [valC] at h)
  rw [World.size_alloc] at h
  exact h
theorem add_zero (f : Rat) (ff : Fit f) (fn fd : Int) (h1 : f.num = fn) (h2 : (f.den : Int) = fd) (W : World) :
    Calls Tryz.prog 45 #[.agg #[.int .i64 fn, .int .i64 fd], .agg #[.int .i64 0, .int .i64 0]] W fun e w' => e = .returned (.tuple #[.agg #[.int .i64 0, .int .i64 0], .int .i64 2]) ∧ Below W.heap.size W w' := by
  subst h1 h2
  have hb := fit_bd ff
  have h := add_any f.num f.den 0 0 W (by omega) (by omega) (by omega) (by omega) (by omega) (by omega) (by omega) (by omega)
  have e : addN f.num f.den 0 0 = (0, 0, 2) := by
    unfold addN
    have : vldB 0 0 = false := by decide
    rw [this, Bool.and_false]
    rfl
  rw [e] at h
  exact h
end Go.Proofs.YtbncfknjgldcbaaGreat.ChLaw
