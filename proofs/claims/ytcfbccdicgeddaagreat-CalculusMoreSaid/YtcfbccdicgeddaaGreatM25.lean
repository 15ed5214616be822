/- Merged texts: CLawN, CChSec, CTopB, CSmC, CChSec2. -/
import Derived.Test.YtcfbccdicgeddaaGreatM21
import Derived.Test.YtcfbccdicgeddaaGreatM24
import Derived.Test.YtcfbccdicgeddaaGreatM23
import Derived.Test.YtcfbccdicgeddaaGreatM9
import Derived.Test.YtcfbccdicgeddaaGreatM22
import Derived.Test.YtcfbccdicgeddaaGreatM18
/- Calls of package calculus in the words of the laws. -/
namespace Go.Proofs.YtcfbccdicgeddaaGreat
open Go.RowKit Go.Joins Go.Shelf Go.Sort Num

theorem isL.one {A : Option Addr} {ca : Nat} {c : List Buck} {W : World} (hA : isC A ca c W) (hc : 1 ≤ c.length ∧ c.length ≤ 32) (t : TypeId) (n : Nat) (hn : c.length = n) :
    isL (some ⟨W.heap.size, 0, none⟩) [c] (W.alloc (.cells #[.slice A n ca] t)) := by
  subst hn
  have hb : Below W.heap.size W (W.alloc (.cells #[.slice A c.length ca] t)) := (Below.refl _ _).alloc (Nat.le_refl _) _
  refine ⟨fun x hx => ?_, [.slice A c.length ca], rfl, isV.lit W _ _ t rfl, fun j v x hv hx => ?_⟩
  · rw [List.mem_singleton.1 hx]; exact hc
  · match j with
    | 0 => simp only [List.getElem?_cons_zero, Option.some.injEq] at hv hx; subst hv hx; exact ⟨A, ca, rfl, cl_isC A ca c W _ hA hb⟩
    | j + 1 => simp at hv
/-- The first bucket alone. -/
theorem isC.head {A : Option Addr} {cap : Nat} {x : Buck} {l : List Buck} {W : World} (h : isC A cap (x :: l) W) : isC A cap [x] W := by
  obtain ⟨A', cap', e, h'⟩ := h
  simp only [Value.slice.injEq] at e
  obtain ⟨rfl, -, rfl⟩ := e
  refine ⟨A, cap, rfl, fun _ => ?_⟩
  obtain ⟨b, off, e1, e2, e3⟩ := h' (by simp)
  refine ⟨b, off, e1, e2, fun k y hk => ?_⟩
  match k with
  | 0 => exact e3 0 y (by simpa using hk)
  | k + 1 => simp at hk
section
variable {cs : List (List Buck)} {r L : Rat}
theorem delay_w (hl : cs.length ≤ 32) (hr : Fit r) (hr0 : 0 < r) (hL : Fit L) (hL0 : 0 ≤ L) (n : Nat) (hn : cs.length = n) (rn rd ln ld a b c : Int) (h1 : r.num = rn) (h2 : (r.den : Int) = rd) (h3 : L.num = ln) (h4 : (L.den : Int) = ld) (hv : delayV cs r L = (a, b, c)) (A : Option Addr) (cap : Nat) (W : World) (hI : isL A cs W) :
    Calls Tryz.prog 12 #[.slice A n cap, .agg #[.int .i64 rn, .int .i64 rd, .int .i64 ln, .int .i64 ld]] W fun e w' => e = .returned (.tuple #[.agg #[.int .i64 a, .int .i64 b], .int .i64 c]) ∧ Below W.heap.size W w' := by
  subst hn h1 h2 h3 h4
  have h := delay_ok A cap cs hl r L hr hr0 hL hL0 W hI
  rw [hv] at h
  exact h
theorem back_w (hl : cs.length ≤ 32) (hr : Fit r) (hr0 : 0 < r) (hL : Fit L) (hL0 : 0 ≤ L) (n : Nat) (hn : cs.length = n) (rn rd ln ld a b c : Int) (h1 : r.num = rn) (h2 : (r.den : Int) = rd) (h3 : L.num = ln) (h4 : (L.den : Int) = ld) (hv : backV cs r L hL = (a, b, c)) (A : Option Addr) (cap : Nat) (W : World) (hI : isL A cs W) :
    Calls Tryz.prog 14 #[.slice A n cap, .agg #[.int .i64 rn, .int .i64 rd, .int .i64 ln, .int .i64 ld]] W fun e w' => e = .returned (.tuple #[.agg #[.int .i64 a, .int .i64 b], .int .i64 c]) ∧ Below W.heap.size W w' := by
  subst hn h1 h2 h3 h4
  have h := back_ok A cap cs hl r L hr hr0 hL hL0 W hI
  rw [hv] at h
  exact h
end
theorem make_w (n d : Int) (h1 : -1073741824 ≤ n ∧ n ≤ 1073741824) (h2 : 1 ≤ d ∧ d ≤ 1073741824) (W : World) :
    Calls Tryz.prog 26 #[.int .i64 n, .int .i64 d] W fun e w' => e = .returned (.tuple #[.agg #[.int .i64 (Rat.divInt n d).num, .int .i64 (Rat.divInt n d).den], .int .i64 0]) ∧ Below W.heap.size W w' := by
  have h := make_any n d W (by omega) (by omega) (by omega) (by omega)
  rw [mk_fit h1 h2] at h
  exact h
/-- The laws' rates. -/
theorem rate_fit {n e : Int} (hn : 1 ≤ n ∧ n ≤ 160) (he : 8 ≤ e ∧ e ≤ 15) : Fit (Rat.divInt n e) ∧ 0 < Rat.divInt n e := by
  refine ⟨bd_le (bd_divInt (A := 160) (B := 15) (by omega) (by omega) (by omega)) (by decide) (by decide), ?_⟩
  exact (Mx.dv_pos (by omega)).2 (by omega)
theorem int_fit {z : Int} (h : -1073741824 ≤ z ∧ z ≤ 1073741824) : Fit (z : Rat) := by
  constructor
  · show z.natAbs ≤ 1073741824; omega
  · exact (by decide : (1 : Nat) ≤ 1073741824)
end Go.Proofs.YtcfbccdicgeddaaGreat
/- The delay of a single bucket that was shifted: small or too large, no other error. -/
namespace Go.Proofs.YtcfbccdicgeddaaGreat.Mx
open Go.RowKit Go.Joins Go.Shelf Go.Sort Num BrkLaw

theorem norm_one (y : Buck) : normL [y] = [y] := nf_uniq ⟨List.pairwise_singleton _ _, fun _ h => h, fun x hx => ⟨x, hx, x.le_refl⟩⟩
theorem brk_one (y : Buck) : brkL (normL [y]) = [] := by
  rw [norm_one]
  unfold brkL twosL
  simp only [List.map_nil, twosL, List.append_nil, Aw3.sort_nil]
  rfl
theorem pts_one (y : Buck) : ptsL [[y]] = [] := by unfold ptsL; rw [List.flatMap_cons, brk_one]; rfl
theorem brks_one (y : Buck) : brksOk [[y]] := fun c hc p hp => by
  rw [List.mem_singleton.1 hc, norm_one] at hp
  simp [twosL] at hp
theorem rate_one (y : Buck) : rateO [[y]] = some y.r := by
  show addO (some 0) (some y.r) = _
  rw [addO_some, Rat.zero_add, if_pos y.hr]
theorem prep_one {y : Buck} {q : Rat} (h : y.r ≤ q) : prepE [[y]] q = 0 := by
  unfold prepE
  rw [if_pos (brks_one y), rate_one]
  exact if_neg (Rat.not_lt.2 h)
theorem great_fit {f : Int → Option Rat} (hf : ∀ z, fitO (f z)) {zs : List Int} {m : Rat} (h : greatZ f zs = some m) : Fit m := by
  rcases (great_some h).2.2 with rfl | ⟨z, _, h⟩
  · constructor <;> decide
  · exact hf z m h
theorem second_is {y : Buck} {q L : Rat} (h : y.r ≤ q) : ∃ o : Option Rat, delayV [[y]] q L = numV o ∧ ∀ m, o = some m → Fit m ∧ (0 ≤ m ∧ y.b / q + L ≤ m) := by
  unfold delayV
  rw [prep_one h, if_pos rfl]
  refine ⟨_, rfl, fun m hm => ⟨great_fit (fun z => delayO_fit _ _ _ _) hm, (great_some hm).2.1, ?_⟩⟩
  obtain ⟨v, hv, hvm⟩ := (great_some hm).1 0 ((ticks_mem _ _).2 (.inl rfl))
  rw [delayO_some hv, tot_one, show ((0 : Int) : Rat) = 0 from rfl] at hvm
  have e : y.b + y.r * 0 = y.b := by grind
  rw [e] at hvm
  grind
end Go.Proofs.YtcfbccdicgeddaaGreat.Mx
/- calculus.Delay and Backlog, of arguments that are not valid. -/
namespace Go.Proofs.YtcfbccdicgeddaaGreat
open Go.RowKit Go.Joins Go.Shelf Go.Sort Num

set_option maxRecDepth 100000 in
set_option maxHeartbeats 2000000 in
theorem delay_bad (A : Option Addr) (cap : Nat) (cs : List (List Bk)) (rn rd ln ld : Int) (h1 : I64 rn) (h2 : I64 rd) (h3 : I64 ln) (h4 : I64 ld) (w : World) (hI : cs.length ≤ 32 → isLR A cs w) (hbad : cs.length ≤ 32 → srvB rn rd ln ld = true → cs.all valC = true → False) :
    Calls Tryz.prog 12 #[.slice A cs.length cap, .agg #[.int .i64 rn, .int .i64 rd, .int .i64 ln, .int .i64 ld]] w fun e w' => e = .returned (ratV (0, 0, 2)) ∧ Below w.heap.size w w' := by
  have hB0 := (((Below.refl w.heap.size w).alloc (Nat.le_refl _) (.cells #[.slice A cs.length cap] 22)).alloc (by simp) (.cells #[.int .i64 rn, .int .i64 rd, .int .i64 ln, .int .i64 ld] 26)).alloc (by simp; omega) (.cells #[.int .i64 0, .int .i64 0] 24)
  have bL := ((BoxN.new w 22 #[.slice A cs.length cap]).alloc (.cells #[.int .i64 rn, .int .i64 rd, .int .i64 ln, .int .i64 ld] 26)).alloc (.cells #[.int .i64 0, .int .i64 0] 24)
  have bS := (BoxN.new (w.alloc (.cells #[.slice A cs.length cap] 22)) 26 #[.int .i64 rn, .int .i64 rd, .int .i64 ln, .int .i64 ld]).alloc (.cells #[.int .i64 0, .int .i64 0] 24)
  rw [World.size_alloc] at bS
  have bR := BoxN.new ((w.alloc (.cells #[.slice A cs.length cap] 22)).alloc (.cells #[.int .i64 rn, .int .i64 rd, .int .i64 ln, .int .i64 ld] 26)) 24 #[.int .i64 0, .int .i64 0]
  rw [World.size_alloc, World.size_alloc] at bR
  have HP := Lib.hid (prep_bad A cap cs rn rd ln ld h1 h2 h3 h4 _ (fun h => cl_isLR A cs w _ (hI h) hB0) hbad)
  have l0 := bL.cell 0
  have s0 := bS.cell 0
  have s1 := bS.cell 1
  have s2 := bS.cell 2
  have s3 := bS.cell 3
  clear hI hbad
  go_enter Tryz.func12, Tryz.ntmps12
  go_wp2_with fail
  (with_reducible refine (HP.out).mono ?_); rintro _ w1 ⟨rfl, hb1⟩
  have bR1 := bR.below hb1 bR.lt
  have hB := hB0.trans (hb1.mono hB0.size)
  have r0 := bR1.cell 0
  have r1 := bR1.cell 1
  have f0 := bR1.frozen 0
  have f1 := bR1.frozen 1
  have kR := bR1.lt
  clear hb1 bL bS bR l0 s0 s1 s2 s3
  go_wp2
  refine bodyPost_ret (v := ratV (0, 0, 2)) (by simp [results, Tryz.results12, go_sem, ratV, r0, r1]) rfl ⟨rfl, ?_⟩
  (have hBs := hB.size; (try simp only [World.size_alloc] at hBs); repeat' (first | (with_reducible exact hB) | (with_reducible exact hBs) | (with_reducible refine Below.drew ?_) | (with_reducible refine below_drewN ?_ _) | (with_reducible refine Below.setCell ?_ ?_ _) | (with_reducible refine Below.alloc ?_ ?_ _) | go_size | omega | (simp; omega)))

set_option maxRecDepth 100000 in
set_option maxHeartbeats 2000000 in
theorem back_bad (A : Option Addr) (cap : Nat) (cs : List (List Bk)) (rn rd ln ld : Int) (h1 : I64 rn) (h2 : I64 rd) (h3 : I64 ln) (h4 : I64 ld) (w : World) (hI : cs.length ≤ 32 → isLR A cs w) (hbad : cs.length ≤ 32 → srvB rn rd ln ld = true → cs.all valC = true → False) :
    Calls Tryz.prog 14 #[.slice A cs.length cap, .agg #[.int .i64 rn, .int .i64 rd, .int .i64 ln, .int .i64 ld]] w fun e w' => e = .returned (ratV (0, 0, 2)) ∧ Below w.heap.size w w' := by
  have hB0 := (((Below.refl w.heap.size w).alloc (Nat.le_refl _) (.cells #[.slice A cs.length cap] 22)).alloc (by simp) (.cells #[.int .i64 rn, .int .i64 rd, .int .i64 ln, .int .i64 ld] 26)).alloc (by simp; omega) (.cells #[.int .i64 0, .int .i64 0] 24)
  have bL := ((BoxN.new w 22 #[.slice A cs.length cap]).alloc (.cells #[.int .i64 rn, .int .i64 rd, .int .i64 ln, .int .i64 ld] 26)).alloc (.cells #[.int .i64 0, .int .i64 0] 24)
  have bS := (BoxN.new (w.alloc (.cells #[.slice A cs.length cap] 22)) 26 #[.int .i64 rn, .int .i64 rd, .int .i64 ln, .int .i64 ld]).alloc (.cells #[.int .i64 0, .int .i64 0] 24)
  rw [World.size_alloc] at bS
  have bR := BoxN.new ((w.alloc (.cells #[.slice A cs.length cap] 22)).alloc (.cells #[.int .i64 rn, .int .i64 rd, .int .i64 ln, .int .i64 ld] 26)) 24 #[.int .i64 0, .int .i64 0]
  rw [World.size_alloc, World.size_alloc] at bR
  have HP := Lib.hid (prep_bad A cap cs rn rd ln ld h1 h2 h3 h4 _ (fun h => cl_isLR A cs w _ (hI h) hB0) hbad)
  have l0 := bL.cell 0
  have s0 := bS.cell 0
  have s1 := bS.cell 1
  have s2 := bS.cell 2
  have s3 := bS.cell 3
  clear hI hbad
  go_enter Tryz.func14, Tryz.ntmps14
  go_wp2_with fail
  (with_reducible refine (HP.out).mono ?_); rintro _ w1 ⟨rfl, hb1⟩
  have bR1 := bR.below hb1 bR.lt
  have hB := hB0.trans (hb1.mono hB0.size)
  have r0 := bR1.cell 0
  have r1 := bR1.cell 1
  have f0 := bR1.frozen 0
  have f1 := bR1.frozen 1
  have kR := bR1.lt
  clear hb1 bL bS bR l0 s0 s1 s2 s3
  go_wp2
  refine bodyPost_ret (v := ratV (0, 0, 2)) (by simp [results, Tryz.results14, go_sem, ratV, r0, r1]) rfl ⟨rfl, ?_⟩
  (have hBs := hB.size; (try simp only [World.size_alloc] at hBs); repeat' (first | (with_reducible exact hB) | (with_reducible exact hBs) | (with_reducible refine Below.drew ?_) | (with_reducible refine below_drewN ?_ _) | (with_reducible refine Below.setCell ?_ ?_ _) | (with_reducible refine Below.alloc ?_ ?_ _) | go_size | omega | (simp; omega)))

end Go.Proofs.YtcfbccdicgeddaaGreat
/- The law package's Small once more: its row is as long as its capacity allows. -/
namespace Go.Proofs.YtcfbccdicgeddaaGreat.SmC
open Go.RowKit Go.Joins Go.Shelf Go.Sort Num

set_option maxRecDepth 100000 in
set_option maxHeartbeats 2000000 in
theorem small_any (A : Option Addr) (cap : Nat) (zs : List Int) (hz : ∀ z ∈ zs, 0 ≤ z ∧ z ≤ 255) (hlen : zs.length ≤ 9223372036854775807) (w : World) (hrow : ByRow w A zs) :
    Calls Tryz.prog 32 #[.slice A zs.length cap] w fun e w' => ∃ A' c', e = .returned (.slice A' (small zs).length c') ∧ isC A' c' (small zs) w' ∧ ((small zs).length ≤ c' ∧ Below w.heap.size w w') := by
  obtain ⟨i0, hi, hz0, hz1, hz2⟩ := info_parts infoB
  have HN : Hid (∀ (n d : Int) (W : World), _) := fun n d W => num_any n d W
  go_enter Tryz.func32, Tryz.ntmps32
  go_wp2_with fail
  go_loopw [3, 4] (fun v i wr => ∃ k j : Nat, (k ≤ 4 ∧ k ≤ smN zs) ∧ j = 2 * k ∧ i = .int .i64 ↑j ∧ wr.ownsRow w.heap.size 60 4 v k (cellsOf (smTo zs k)) ∧ (v = .slice none 0 0 ↔ k = 0) ∧ Below w.heap.size w wr)
    (fun _ i _ => zs.length + 8 - (intOf i).toNat)
  case atStart => exact ⟨0, 0, by omega, rfl, rfl, World.ownsRow_nil _ _ _ _, by simp, Below.refl _ _⟩
  case round =>
    obtain ⟨k, j, ⟨hk, hkn⟩, hj, rfl, hown, hnil, hB⟩ := hrel
    have hform : ∃ g c, u3 = .slice g k c := by
      rcases hown.2 with ⟨e, e2⟩ | ⟨g, c, _, e, _⟩
      · exact ⟨none, 0, by rw [e, e2]⟩
      · exact ⟨_, c, e⟩
    obtain ⟨g, cg, rfl⟩ := hform
    by_cases hlt : k < smN zs
    · have hn1 : j + 1 < zs.length ∧ k < 4 := by unfold smN at hlt; omega
      obtain ⟨hn1, hk4⟩ := hn1
      have hz1e : zs[j]? = some zs[j] := List.getElem?_eq_getElem (by omega)
      have hz2e : zs[j + 1]? = some zs[j + 1] := List.getElem?_eq_getElem hn1
      have hb1 := hz _ (List.getElem_mem (by omega : j < zs.length))
      have hb2 := hz _ (List.getElem_mem hn1)
      have hsm : Hid (smTo zs (k + 1) = smTo zs k ++ [smB zs[j] zs[j + 1]]) := by
        unfold Hid
        rw [smTo_succ, ← hj, List.getD_eq_getElem?_getD, List.getD_eq_getElem?_getD, hz1e, hz2e]; rfl
      obtain ⟨z1, e1⟩ : ∃ z, zs[j] = z := ⟨_, rfl⟩
      obtain ⟨z2, e2⟩ : ∃ z, zs[j + 1] = z := ⟨_, rfl⟩
      rw [e1] at hz1e hb1 hsm
      rw [e2] at hz2e hb2 hsm
      obtain ⟨b, off, rfl, hbl, hr⟩ := hrow (by intro h; rw [h] at hn1; simp at hn1)
      have c1 := (hB.cell (p := ⟨b, off + j, none⟩) hbl).trans (hr j z1 hz1e)
      have c2 := (hB.cell (p := ⟨b, off + (j + 1), none⟩) hbl).trans (hr (j + 1) z2 hz2e)
      have hm1 := Lib.hid (mk_fit (n := z1 % 101) (d := 1) (by omega) (by decide))
      have hm2 := Lib.hid (mk_fit (n := z2 % 41) (d := 8) (by omega) (by decide))
      rw [← smB_b z1 z2] at hm1
      rw [← smB_r z1 z2] at hm2
      have HM1 : Hid (∀ W : World, _) := fun W => make_any (z1 % 101) 1 W (by omega) (by omega) (by decide) (by decide)
      have HM2 : Hid (∀ W : World, _) := fun W => make_any (z2 % 41) 8 W (by omega) (by omega) (by decide) (by decide)
      rw [hm1.out] at HM1
      rw [hm2.out] at HM2
      simp only [ratV] at HM1 HM2
      generalize smB z1 z2 = x at HM1 HM2 hsm
      have hone := one_cells x
      simp only [Buck.cells] at hone
      have hsn := Lib.hid (cellsOf_snoc (smTo zs k) x)
      have hlk : Hid ((smTo zs k).length = k) := smTo_len zs k
      obtain ⟨hb10, hb11⟩ := hb1
      obtain ⟨hb20, hb21⟩ := hb2
      have Hj := Lib.hid hj
      have Hr := Lib.hid hr
      clear hz1e hz2e e1 e2 hm1 hm2 hj hr
      go_wp2_with fail
      refine (HM1.out _).mono ?_; rintro e w1 ⟨rfl, hbm⟩
      have hown1 := own_below hown hbm
      have hB1 := hB.trans (hbm.mono hB.size)
      replace c2 := (hbm.cell (p := ⟨b, off + (j + 1), none⟩) (Nat.lt_of_lt_of_le hbl hB.size)).trans c2
      have hbl1 : b < w1.heap.size := Nat.lt_of_lt_of_le hbl hB1.size
      clear c1 hown hbm
      go_wp2_with fail
      refine (HM2.out _).mono ?_; rintro e w2 ⟨rfl, hbm⟩
      have hx := (Has.new w1 x.b.num x.b.den 24).keep hbm
      have hown2 := own_below (hown1.alloc _) hbm
      have hB2 := below_allocs1 hB1 hB1.size hbm
      clear hown1 hB1 hbm c2 hbl1
      generalize w1.heap.size = bx at hx ⊢
      have x0 := (hx.alloc (.cells #[.int .i64 x.r.num, .int .i64 x.r.den] 24)).c0
      have x1 := (hx.alloc (.cells #[.int .i64 x.r.num, .int .i64 x.r.den] 24)).c1
      have lx := hx.lt
      have hNew : ((w2.alloc (.cells #[.int .i64 x.r.num, .int .i64 x.r.den] 24)).alloc (.cells #[.int .i64 x.b.num, .int .i64 x.b.den, .int .i64 x.r.num, .int .i64 x.r.den] 60)).heap[w2.heap.size + 1]? = some (.cells #[.int .i64 x.b.num, .int .i64 x.b.den, .int .i64 x.r.num, .int .i64 x.r.den] 60 (0, 0)) := by simpa using heap_alloc_new (w2.alloc (.cells #[.int .i64 x.r.num, .int .i64 x.r.den] 24)) (.cells #[.int .i64 x.b.num, .int .i64 x.b.den, .int .i64 x.r.num, .int .i64 x.r.den] 60)
      have hNews := Lib.hid (World.news_of_block hNew)
      have own1 := (hown2.alloc (.cells #[.int .i64 x.r.num, .int .i64 x.r.den] 24)).alloc (.cells #[.int .i64 x.b.num, .int .i64 x.b.den, .int .i64 x.r.num, .int .i64 x.r.den] 60)
      have hB3 := (hB2.alloc hB2.size (.cells #[.int .i64 x.r.num, .int .i64 x.r.den] 24)).alloc (by have := hB2.size; simp; omega) (.cells #[.int .i64 x.b.num, .int .i64 x.b.den, .int .i64 x.r.num, .int .i64 x.r.den] 60)
      have hsz := hB2.size
      clear hNew hx hown2 hnil
      go_wp2_with (at_builtin; refine wpList_append_own _ rfl _ _ 29 rfl w.heap.size 60 i0 _ 4 32 Tryz.underlying29 hi hz0 hz1 hz2 rfl (by decide) _ _ _ rfl own1 ⟨w2.heap.size + 1, 0, none⟩ 1 1 [.int .i64 x.b.num, .int .i64 x.b.den, .int .i64 x.r.num, .int .i64 x.r.den] rfl rfl hNews.out hone (by unfold maxLen; omega) (by omega) (by simp; omega) ?_; intro v' w3 hown' hgrow _; obtain ⟨g', cap3, rfl⟩ := ownsRow_succ hown')
      have hbl2 : ∀ r, (Value.slice g k cg).ownBlock = some r → w.heap.size ≤ r := fun r e => by
        rcases own1.2 with ⟨e1, _⟩ | ⟨g4, c4, _, e1, h4, _⟩
        · rw [e1] at e; cases e
        · rw [e1] at e; cases e; exact h4
      have hB4 : Below w.heap.size w w3 := hB3.grown hgrow (by simp; omega) hbl2
      go_roundw
      case rel => exact ⟨k + 1, j + 2, by omega, by have := Hj.out; omega, by go_num, by rw [hsm.out, hsn.out]; exact hown', by simp, hB4⟩
      case measure => simp [intOf]; omega
    · have hke : k = smN zs := by omega
      by_cases hk0 : k = 0
      · obtain ⟨rfl, rfl, rfl⟩ : g = none ∧ k = 0 ∧ cg = 0 := by
          have := hnil.2 hk0
          simp only [Value.slice.injEq] at this
          exact this
        have hn0 : smN zs = 0 := hke.symm
        have hsm : Hid (small zs = [smD]) := by unfold Hid small; rw [if_pos hn0]
        have hj0 : j = 0 := by omega
        have hn1 : ¬ j + 1 < zs.length := by unfold smN at hn0; omega
        subst hj0
        clear hke hn0 hnil hown hj hkn hlt
        go_wp2_with fail
        (with_reducible refine (HN.out _ _ _).mono ?_); rintro e w1 ⟨rfl, hb1⟩
        have hB1 := hB.trans (hb1.b.mono hB.size)
        go_wp2_with fail
        (with_reducible refine (HN.out _ _ _).mono ?_); rintro e w2 ⟨rfl, hb2⟩
        have hB2 := hB1.trans (hb2.b.mono hB1.size)
        have hi := Lib.hid (isC.lit w2 [smD] 1 #[.int .i64 7, .int .i64 1, .int .i64 1, .int .i64 8] (by kernel_rfl))
        have hB3 := Lib.hid (hB2.alloc hB2.size (.cells #[.int .i64 7, .int .i64 1, .int .i64 1, .int .i64 8] 60))
        clear hb1 hb2 hB hB1 hB2
        go_wp2
        go_ret
        exact ⟨_, 1, by rw [hsm.out]; rfl, by rw [hsm.out]; exact hi.out, by rw [hsm.out]; exact Nat.le_refl _, hB3.out⟩
      · have hsm : Hid (small zs = smTo zs k) := by unfold Hid small; rw [if_neg (by omega), hke]
        have hlk : Hid ((smTo zs k).length = k) := smTo_len zs k
        have hO : Hid (isC g cg (smTo zs k) wr) := by
          unfold Hid
          refine isC.of_own (base := w.heap.size) ?_
          rw [smTo_len]
          refine ⟨by rw [smTo_len]; exact hown, ?_⟩
          rw [hnil]
          constructor
          · intro h; exact absurd h hk0
          · intro h; have := smTo_len zs k; rw [h] at this; simp at this; omega
        have hcap : Hid (k ≤ cg) := by
          rcases hown.2 with ⟨e, h0⟩ | ⟨g', cap', cur, e, _, _, hnc, _⟩
          · exact absurd h0 hk0
          · simp only [Value.slice.injEq] at e
            unfold Hid
            omega
        have hjb : j ≤ 8 := by omega
        have hc : (¬ j + 1 < zs.length) ∨ (j + 1 < zs.length ∧ k = 4) := by unfold smN at hke; omega
        have hk1 : 0 < k := by omega
        have hne : ((k : Int) == 0) = false := by simp; omega
        have HB := Lib.hid hB
        clear hnil hown hj hkn hlt hke hB hk0
        rcases hc with hc | ⟨hc, hk4⟩
        · have hd : decide ((j : Int) + 1 < zs.length) = false := by simp; omega
          go_wp2
          go_ret
          exact ⟨g, cg, by rw [hsm.out, hlk.out]; rfl, by rw [hsm.out]; exact hO.out, by rw [hsm.out, hlk.out]; exact hcap.out, HB.out⟩
        · have hlk4 : decide ((k : Int) < 4) = false := by simp; omega
          have hd : decide ((j : Int) + 1 < zs.length) = true := by simp; omega
          clear hk4
          go_wp2
          go_ret
          exact ⟨g, cg, by rw [hsm.out, hlk.out]; rfl, by rw [hsm.out]; exact hO.out, by rw [hsm.out, hlk.out]; exact hcap.out, HB.out⟩


theorem small_yes (A : Option Addr) (cap : Nat) (zs : List Int) (w W : World) (h : Nums w A zs) (hb : Below w.heap.size w W) :
    Calls Tryz.prog 32 #[.slice A zs.length cap] W fun e w' => ∃ A' c', e = .returned (.slice A' (small zs).length c') ∧ isC A' c' (small zs) w' ∧ ((small zs).length ≤ c' ∧ Below W.heap.size W w') :=
  small_any A cap zs h.bd h.len W (h.keep hb).row
end Go.Proofs.YtcfbccdicgeddaaGreat.SmC
/- Delay of no curve; Add of a number and no number: errors. -/
namespace Go.Proofs.YtcfbccdicgeddaaGreat.ChLaw
open Go.RowKit Go.Joins Go.Shelf Go.Sort Num Mx

theorem isL_one {A : Option Addr} {ca : Nat} {c : List Buck} {W : World} {g : Nat} (hg : W.heap.size = g) (hA : isC A ca c W) (hc : 1 ≤ c.length ∧ c.length ≤ 32) (t : TypeId) (n : Nat) (hn : c.length = n) :
    isL (some ⟨g, 0, none⟩) [c] (W.alloc (.cells #[.slice A n ca] t)) := by
  subst hg
  exact isL.one hA hc t n hn
theorem shift_one {A : Option Addr} {ca : Nat} {x : Buck} (f : Rat) (hf : Fit f) (hf0 : 0 ≤ f) (W : World) (hi : isC A ca [x] W) :
    Calls Tryz.prog 38 #[.slice A 1 ca, .agg #[.int .i64 f.num, .int .i64 (f.den : Int)]] W fun e w' => ((okv x f → ∃ v, e = .returned (.tuple #[v, .int .i64 0]) ∧ Own4 W.heap.size w' v [shiftB f x]) ∧ ((¬ okv x f) → e = .returned (.tuple #[.slice none 0 0, .int .i64 3]))) ∧ Below W.heap.size W w' := by
  refine (shift_ok A ca [x] f (by simp) (by simp) hf hf0 W hi).mono fun e w' ⟨h1, h2, h3⟩ => ⟨⟨fun h => ?_, fun h => h2 (by simpa using h)⟩, h3⟩
  have := h1 (by simpa using h)
  rw [List.map_cons, List.map_nil, norm_one] at this
  exact this
theorem isLR_nil (W : World) (t : TypeId) : isLR (some ⟨W.heap.size, 0, none⟩) [[]] (W.alloc (.cells #[.slice none 0 0] t)) := by
  refine ⟨fun c hc => by rw [List.mem_singleton.1 hc]; exact ⟨by decide, fun _ h => by cases h⟩, [.slice none 0 0], rfl, isV.lit W _ _ t rfl, fun j v c hv hc => ?_⟩
  match j with
  | 0 => simp only [List.getElem?_cons_zero, Option.some.injEq] at hv hc; subst hv hc; exact ⟨none, 0, rfl, none, 0, rfl, fun h => absurd rfl h⟩
  | j + 1 => simp at hv
theorem delay_nil (q : Rat) (fq : Fit q) (v : Int) (hv : 0 ≤ v ∧ v ≤ 255) (qn qd : Int) (h1 : q.num = qn) (h2 : (q.den : Int) = qd) (W : World) :
    Calls Tryz.prog 12 #[.slice (some ⟨W.heap.size, 0, none⟩) 1 1, .agg #[.int .i64 qn, .int .i64 qd, .int .i64 v, .int .i64 1]] (W.alloc (.cells #[.slice none 0 0] 29)) fun e w' => e = .returned (.tuple #[.agg #[.int .i64 0, .int .i64 0], .int .i64 2]) ∧ Below (W.heap.size + 1) (W.alloc (.cells #[.slice none 0 0] 29)) w' := by
  subst h1 h2
  have hb := fit_bd fq
  have h := delay_bad (some ⟨W.heap.size, 0, none⟩) 1 [[]] q.num q.den v 1 (by constructor <;> omega) (by constructor <;> omega) (by constructor <;> omega) (by decide) (W.alloc (.cells #[.slice none 0 0] 29)) (fun _ => isLR_nil W _) (fun _ _ h => by simp [valC] at h)
  rw [World.size_alloc] at h
  exact h
theorem add_zero (f : Rat) (ff : Fit f) (fn fd : Int) (h1 : f.num = fn) (h2 : (f.den : Int) = fd) (W : World) :
    Calls Tryz.prog 31 #[.agg #[.int .i64 fn, .int .i64 fd], .agg #[.int .i64 0, .int .i64 0]] W fun e w' => e = .returned (.tuple #[.agg #[.int .i64 0, .int .i64 0], .int .i64 2]) ∧ Below W.heap.size W w' := by
  subst h1 h2
  have hb := fit_bd ff
  have h := add_any f.num f.den 0 0 W (by omega) (by omega) (by omega) (by omega) (by omega) (by omega) (by omega) (by omega)
  have e : addN f.num f.den 0 0 = (0, 0, 2) := by
    unfold addN
    have : vldB 0 0 = false := by decide
    rw [this, Bool.and_false]
    rfl
  rw [e] at h
  exact h
end Go.Proofs.YtcfbccdicgeddaaGreat.ChLaw
