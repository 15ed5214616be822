/- Merged texts: CTop, CBlog. -/
import Derived.Test.YtbncfknjgldcbaaGreatM9
import Derived.Test.YtbncfknjgldcbaaGreatM15
import Derived.Test.YtbncfknjgldcbaaGreatM4
import Derived.Laws.EntriesVeiled
/- calculus.Delay. -/
namespace Go.Proofs.YtbncfknjgldcbaaGreat
open Go.RowKit Go.Joins Go.Shelf Go.Sort Num
attribute [local go_sem] Oper.semAt_some

theorem meet_nn {u v : Buck} (h : u.bef v) : 0 ≤ meetQ (u, v) := by
  have h0 : u.r - v.r ≠ 0 := meet_ne (p := (u, v)) h
  have hm : meetQ (u, v) * (u.r - v.r) = v.b - u.b := by unfold meetQ; exact Rat.div_mul_cancel h0
  have h1 := h.1
  have h2 := h.2
  refine Rat.not_lt.1 fun k => ?_
  have k2 : meetQ (u, v) * (u.r - v.r) < 0 * (u.r - v.r) := Rat.mul_lt_mul_of_pos_right k (by grind)
  grind
theorem pts_nn {cs : List (List Buck)} (h : brksOk cs) : ∀ p ∈ ptsL cs, 0 ≤ p.q := by
  intro p hp
  obtain ⟨c, hc, hpc⟩ := List.mem_flatMap.1 hp
  obtain ⟨pr, hpr, rfl⟩ := List.mem_map.1 (((Ref.brk_spec _).2 p).1 hpc)
  rw [meetP_q (h c hc pr hpr)]
  exact meet_nn (twosL_mem (normL_nf c).o pr hpr)
theorem prep_ok0 {cs : List (List Buck)} {r : Rat} (h : prepE cs r = 0) : brksOk cs := by
  unfold prepE at h
  split at h
  · assumption
  · cases h

/-- The greatest of the values at whole points, from 0 on. -/
def greatZ (f : Int → Option Rat) (zs : List Int) : Option Rat := if ∀ z ∈ zs, (f z).isSome = true then some (zs.foldl (fun m z => if m < (f z).getD 0 then (f z).getD 0 else m) 0) else none
theorem great_z (f : Int → Option Rat) (T : List Tk) : greatO (fun x => f x.n) T = greatZ f (T.map Tk.n) := by
  unfold greatO greatZ mxV mxStep
  rw [List.foldl_map]
  simp only [List.forall_mem_map]
theorem tk_fit (x : Tk) : Fit (x.n : Rat) ∧ 0 ≤ (x.n : Rat) := by
  have h1 := x.lo
  have h2 := x.hi
  refine ⟨⟨?_, ?_⟩, ?_⟩
  · show x.n.natAbs ≤ 1073741824
    omega
  · exact (by decide : (1 : Nat) ≤ 1073741824)
  · exact Rat.num_nonneg.1 (show 0 ≤ x.n from h1)
theorem own_isP {base : Nat} {W : World} {v : Value} {c : List Pt} (h : W.ownsRow base 25 2 v c.length (ptsOf c)) : ∃ A cap, v = .slice A c.length cap ∧ isP A c W := by
  rcases h.2 with ⟨rfl, h0⟩ | ⟨g, cap, cur, rfl, hb, hg, _⟩
  · rw [h0]
    exact ⟨none, 0, rfl, fun h => absurd (List.eq_nil_of_length_eq_zero h0) h⟩
  · exact ⟨_, cap, rfl, fun _ => ⟨g, rfl, (Array.getElem?_eq_some_iff.1 hg).1, own_pts h⟩⟩
theorem points_box (A : Option Addr) (la ca : Nat) (w : World) :
    Calls Tryz.prog 73 #[.slice A la ca] w fun e w' => ∃ Bt, e = .returned (.func (.func 108) #[] #[.pointer (some ⟨Bt, 0, none⟩)]) ∧ BoxN w' Bt 44 #[.slice A la ca] ∧ Below w.heap.size w w' :=
  (points_any A la ca w).mono fun e w' ⟨h1, h2⟩ => ⟨_, h1, by rw [h2]; exact BoxN.new _ _ _, by rw [h2]; exact (Below.refl _ _).alloc (Nat.le_refl _) _⟩

def delayV (cs : List (List Buck)) (r L : Rat) : Int × Int × Int := if prepE cs r = 0 then numV (greatZ (fun z => delayO cs r L z) (ticksL (ptsL cs))) else (0, 0, prepE cs r)

theorem great_del (A : Option Addr) (cap : Nat) (cs : List (List Buck)) (hl : cs.length ≤ 32) (r L : Rat) (hr : Fit r) (hr0 : 0 < r) (hL : Fit L) (b1 b2 : Nat) (ts : List Pt) (hn : ∀ p ∈ ts, 0 ≤ p.q) (hts : ts.length ≤ 1048576) (A1 : Option Addr) (cap1 Bt : Nat) (w : World)
    (h1 : BoxN w b1 50 #[.slice A cs.length cap]) (h2 : BoxN w b2 52 #[.int .i64 r.num, .int .i64 r.den, .int .i64 L.num, .int .i64 L.den]) (hI : isL A cs w) (hBt : BoxN w Bt 44 #[.slice A1 ts.length cap1]) (hP : isP A1 ts w) :
    Calls Tryz.prog 72 #[.agg #[.func (.func 68) #[] #[.pointer (some ⟨b1, 0, none⟩), .pointer (some ⟨b2, 0, none⟩)]], .func (.func 108) #[] #[.pointer (some ⟨Bt, 0, none⟩)]] w fun e w' => e = .returned (ratV (numV (greatZ (fun z => delayO cs r L z) (ticksL ts)))) ∧ Below w.heap.size w w' := by
  obtain ⟨T, hT⟩ := ticks_tk hn
  have := great_delay (fun x => delayO cs r L x.n) (fun x => delayO_fit cs r L x.n) ts hts T hT Bt b1 b2 w A1 cap1 hBt hP (fun x W hW =>
    (delay1_any A cap cs (by omega) r L x.n hr (fun h => by subst h; exact absurd hr0 Rat.lt_irrefl) hL (tk_fit x).1 (tk_fit x).2 b1 b2 W (h1.below hW h1.lt) (h2.below hW h2.lt) (cl_isL A cs w W hI hW)).mono fun e w' ⟨k1, k2⟩ => ⟨⟨_, k1, rv_num _⟩, k2⟩)
  rw [great_z (fun z => delayO cs r L z) T, hT] at this
  exact callsIn_wide.1 this
theorem great_bac (A : Option Addr) (cap : Nat) (cs : List (List Buck)) (hl : cs.length ≤ 32) (r L : Rat) (hr : Fit r) (hL : Fit L) (b1 b2 : Nat) (ts : List Pt) (hn : ∀ p ∈ ts, 0 ≤ p.q) (hts : ts.length ≤ 1048576) (A1 : Option Addr) (cap1 Bt : Nat) (w : World)
    (h1 : BoxN w b1 50 #[.slice A cs.length cap]) (h2 : BoxN w b2 52 #[.int .i64 r.num, .int .i64 r.den, .int .i64 L.num, .int .i64 L.den]) (hI : isL A cs w) (hBt : BoxN w Bt 44 #[.slice A1 ts.length cap1]) (hP : isP A1 ts w) :
    Calls Tryz.prog 72 #[.agg #[.func (.func 76) #[] #[.pointer (some ⟨b1, 0, none⟩), .pointer (some ⟨b2, 0, none⟩)]], .func (.func 108) #[] #[.pointer (some ⟨Bt, 0, none⟩)]] w fun e w' => e = .returned (ratV (numV (greatZ (fun z => backO cs r L z) (ticksL ts)))) ∧ Below w.heap.size w w' := by
  obtain ⟨T, hT⟩ := ticks_tk hn
  have := great_backlog (fun x => backO cs r L x.n) (fun x => backO_fit cs r L x.n) ts hts T hT Bt b1 b2 w A1 cap1 hBt hP (fun x W hW =>
    back1_any A cap cs (by omega) r L x.n hr hL (tk_fit x).1 (tk_fit x).2 b1 b2 W (h1.below hW h1.lt) (h2.below hW h2.lt) (cl_isL A cs w W hI hW))
  rw [great_z (fun z => backO cs r L z) T, hT] at this
  exact callsIn_wide.1 this

set_option maxRecDepth 100000 in
set_option maxHeartbeats 4000000 in
theorem delay_ok (A : Option Addr) (cap : Nat) (cs : List (List Buck)) (hl : cs.length ≤ 32) (r L : Rat) (hr : Fit r) (hr0 : 0 < r) (hL : Fit L) (hL0 : 0 ≤ L) (w : World) (hI : isL A cs w) :
    Calls Tryz.prog 26 #[.slice A cs.length cap, .agg #[.int .i64 r.num, .int .i64 r.den, .int .i64 L.num, .int .i64 L.den]] w fun e w' => e = .returned (ratV (delayV cs r L)) ∧ Below w.heap.size w w' := by
  have hB0 := (((Below.refl w.heap.size w).alloc (Nat.le_refl _) (.cells #[.slice A cs.length cap] 50)).alloc (by simp) (.cells #[.int .i64 r.num, .int .i64 r.den, .int .i64 L.num, .int .i64 L.den] 52)).alloc (by simp; omega) (.cells #[.int .i64 0, .int .i64 0] 25)
  have bL := ((BoxN.new w 50 #[.slice A cs.length cap]).alloc (.cells #[.int .i64 r.num, .int .i64 r.den, .int .i64 L.num, .int .i64 L.den] 52)).alloc (.cells #[.int .i64 0, .int .i64 0] 25)
  have bS := (BoxN.new (w.alloc (.cells #[.slice A cs.length cap] 50)) 52 #[.int .i64 r.num, .int .i64 r.den, .int .i64 L.num, .int .i64 L.den]).alloc (.cells #[.int .i64 0, .int .i64 0] 25)
  rw [World.size_alloc] at bS
  have bR := BoxN.new ((w.alloc (.cells #[.slice A cs.length cap] 50)).alloc (.cells #[.int .i64 r.num, .int .i64 r.den, .int .i64 L.num, .int .i64 L.den] 52)) 25 #[.int .i64 0, .int .i64 0]
  rw [World.size_alloc, World.size_alloc] at bR
  have HP := prep_ok A cap cs hl r L hr hr0 hL hL0 _ (cl_isL A cs w _ hI hB0)
  have HG : ∀ (b1 b2 A1 cap1 Bt W), BoxN W b1 50 #[.slice A cs.length cap] → BoxN W b2 52 #[.int .i64 r.num, .int .i64 r.den, .int .i64 L.num, .int .i64 L.den] → BoxN W Bt 44 #[.slice A1 (ptsL cs).length cap1] → isP A1 (ptsL cs) W → Below w.heap.size w W → prepE cs r = 0 → _ := fun b1 b2 A1 cap1 Bt W h1 h2 h3 h4 h5 h6 =>
    great_del A cap cs hl r L hr hr0 hL b1 b2 (ptsL cs) (pts_nn (prep_ok0 h6)) (by have := ptsL_len (cs := cs) fun c hc => (hI.ok c hc).2; omega) A1 cap1 Bt W h1 h2 (cl_isL A cs w W hI h5) h3 h4
  unfold delayV
  generalize prepE cs r = pe at HP HG ⊢
  obtain ⟨gr, hgr⟩ : ∃ gr, numV (greatZ (fun z => delayO cs r L z) (ticksL (ptsL cs))) = gr := ⟨_, rfl⟩
  simp only [hgr] at HG ⊢
  clear hgr
  obtain ⟨gn, gd, ge⟩ := gr
  simp only [ratV] at HG
  generalize r.num = rn at *
  generalize (r.den : Int) = rd at *
  generalize L.num = Ln at *
  generalize (L.den : Int) = Ld at *
  have HG := Lib.hid HG
  have HP := Lib.hid HP
  have l0 := bL.cell 0
  have s0 := bS.cell 0
  have s1 := bS.cell 1
  have s2 := bS.cell 2
  have s3 := bS.cell 3
  clear hI
  by_cases hp : pe = 0
  case neg =>
    rw [if_neg hp]
    go_enter Tryz.func26, Tryz.ntmps26
    go_wp2_with fail
    (with_reducible refine (HP.out).mono ?_); rintro e w1 ⟨h1, h2, hb1⟩
    obtain rfl := h1 hp
    have bR1 := bR.below hb1 bR.lt
    have hB := hB0.trans (hb1.mono hB0.size)
    have r0 := bR1.cell 0
    have r1 := bR1.cell 1
    have f0 := bR1.frozen 0
    have f1 := bR1.frozen 1
    have kR := bR1.lt
    clear h1 h2 hb1 bL bS bR l0 s0 s1 s2 s3
    go_wp2
    refine bodyPost_ret (v := ratV (0, 0, pe)) (by simp [results, Tryz.results26, go_sem, ratV, r0, r1]) rfl ⟨rfl, ?_⟩
    (have hBs := hB.size; (try simp only [World.size_alloc] at hBs); repeat' (first | (with_reducible exact hB) | (with_reducible exact hBs) | (with_reducible refine Below.drew ?_) | (with_reducible refine below_drewN ?_ _) | (with_reducible refine Below.setCell ?_ ?_ _) | (with_reducible refine Below.alloc ?_ ?_ _) | go_size | omega | (simp; omega)))
  subst hp
  rw [if_pos rfl]
  go_enter Tryz.func26, Tryz.ntmps26
  go_wp2_with fail
  (with_reducible refine (HP.out).mono ?_); rintro e w1 ⟨h1, h2, hb1⟩
  obtain ⟨v, rfl, hown⟩ := h2 (by simp)
  obtain ⟨A1, cap1, rfl, hisP⟩ := own_isP hown
  have hB1 := hB0.trans (hb1.mono hB0.size)
  have bL1 := bL.below hb1 bL.lt
  have bS1 := bS.below hb1 bS.lt
  have bR1 := bR.below hb1 bR.lt
  have hBx := Lib.hid (hB1.alloc hB1.size (.cells #[.func (.func 68) #[] #[.pointer (some ⟨w.heap.size, 0, none⟩), .pointer (some ⟨w.heap.size + 1, 0, none⟩)]] 113))
  have hPx := cl_isP A1 (ptsL cs) w1 _ hisP ((Below.refl _ _).alloc (Nat.le_refl _) (.cells #[.func (.func 68) #[] #[.pointer (some ⟨w.heap.size, 0, none⟩), .pointer (some ⟨w.heap.size + 1, 0, none⟩)]] 113))
  have bLx := bL1.alloc (.cells #[.func (.func 68) #[] #[.pointer (some ⟨w.heap.size, 0, none⟩), .pointer (some ⟨w.heap.size + 1, 0, none⟩)]] 113)
  have bSx := bS1.alloc (.cells #[.func (.func 68) #[] #[.pointer (some ⟨w.heap.size, 0, none⟩), .pointer (some ⟨w.heap.size + 1, 0, none⟩)]] 113)
  have bRx := bR1.alloc (.cells #[.func (.func 68) #[] #[.pointer (some ⟨w.heap.size, 0, none⟩), .pointer (some ⟨w.heap.size + 1, 0, none⟩)]] 113)
  have HGx : Hid (∀ (Bt : Nat) (W : World), BoxN W Bt 44 #[.slice A1 (ptsL cs).length cap1] → Below (w1.heap.size + 1) (w1.alloc (.cells #[.func (.func 68) #[] #[.pointer (some ⟨w.heap.size, 0, none⟩), .pointer (some ⟨w.heap.size + 1, 0, none⟩)]] 113)) W → _) := fun Bt W h3 h4 =>
    HG.out w.heap.size (w.heap.size + 1) A1 cap1 Bt W (bLx.below h4 (by have := bL1.lt; omega)) (bSx.below h4 (by have := bS1.lt; omega)) h3 (cl_isP A1 (ptsL cs) _ W hPx (by rw [World.size_alloc]; exact h4)) (hBx.out.trans (h4.mono (by have := hB1.size; omega))) (by simp)
  have HbR := Lib.hid bRx
  have HBx := Lib.hid hBx.out
  clear h1 h2 hown hisP HG HP l0 s0 s1 s2 s3 bL bS bR hBx hPx bLx bSx bRx
  have HQ := Lib.hid (fun W => points_box A1 (ptsL cs).length cap1 W)
  have r0 := bR1.cell 0
  have r1 := bR1.cell 1
  have f0 := bR1.frozen 0
  have f1 := bR1.frozen 1
  have kR := bR1.lt
  have kz := hB1.size
  have kR2 : w.heap.size + 1 + 1 < w1.heap.size + 1 := by omega
  have kS2 : w1.heap.size < w1.heap.size + 1 := by omega
  go_wp2_with fail
  go_region_with (first
    | (go_at_call 73; (with_reducible refine (HQ.out _).mono ?_); rintro e v1 ⟨Bt, rfl, hbt, hbp⟩; obtain ⟨hcp, hfp⟩ := bcell hbp; have hzp := hbp.size; (try simp only [World.size_alloc, World.size_drew] at hcp); (try simp only [World.size_alloc, World.size_drew] at hfp); (try simp only [World.size_alloc, World.size_drew] at hzp); (try have hk1 : w.heap.size + 1 + 1 < v1.heap.size := by omega); have hbq : Below (w1.heap.size + 1) (w1.alloc (.cells #[.func (.func 68) #[] #[.pointer (some ⟨w.heap.size, 0, none⟩), .pointer (some ⟨w.heap.size + 1, 0, none⟩)]] 113)) v1 := (by repeat' (first | (with_reducible exact Below.refl _ _) | (with_reducible refine Below.drew ?_) | (with_reducible refine below_drewN ?_ _) | (with_reducible refine Below.trans ?_ (hbp.mono ?_)) | omega | (simp; done) | (simp; omega))))
    | (go_at_call 72; (with_reducible refine (HGx.out Bt _ hbt hbq).mono ?_); rintro e v2 ⟨rfl, hbg⟩; obtain ⟨hcg, hfg⟩ := bcell hbg; have hzg := hbg.size; (try simp only [World.size_alloc, World.size_drew] at hcg); (try simp only [World.size_alloc, World.size_drew] at hfg); (try simp only [World.size_alloc, World.size_drew] at hzg); (try have hk2 : w.heap.size + 1 + 1 < v2.heap.size := by omega)))
  all_goals
    have bRv := HbR.out.below hbq (by omega)
    have bRw := BoxN.below (W' := v2) bRv hbg bRv.lt
    have hB := HBx.out.trans ((hbq.mono (by omega)).trans (hbg.mono (by have := hbq.size; simp at this ⊢; omega)))
    have q0 := bRw.cell 0
    have q1 := bRw.cell 1
    go_wp2_with fail
    refine bodyPost_ret (v := ratV (gn, gd, ge)) (by simp [results, Tryz.results26, go_sem, ratV, q0, q1]) rfl ⟨rfl, ?_⟩
    (have hBs := hB.size; (try simp only [World.size_alloc] at hBs); repeat' (first | (with_reducible exact hB) | (with_reducible exact hBs) | (with_reducible refine Below.drew ?_) | (with_reducible refine below_drewN ?_ _) | (with_reducible refine Below.setCell ?_ ?_ _) | (with_reducible refine Below.alloc ?_ ?_ _) | go_size | omega | (simp; omega)))
end Go.Proofs.YtbncfknjgldcbaaGreat
/- calculus.Backlog. -/
namespace Go.Proofs.YtbncfknjgldcbaaGreat
open Go.RowKit Go.Joins Go.Shelf Go.Sort Num
attribute [local go_sem] Oper.semAt_some

theorem pts_nn2 {cs : List (List Buck)} (h : brksOk cs) {L : Rat} {hL : Fit L} (hL0 : 0 ≤ L) : ∀ p ∈ ptsL cs ++ [(⟨L, hL⟩ : Pt)], 0 ≤ p.q := fun p hp => by
  rcases List.mem_append.1 hp with hp | hp
  · exact pts_nn h p hp
  · simp at hp; subst hp; exact hL0
theorem own_isP2 {base : Nat} {W : World} {g n cap : Nat} {xs : List Value} {c : List Pt} (h : W.ownsRow base 25 2 (.slice (some ⟨g, 0, none⟩) n cap) n xs) (hn : c.length = n) (hx : ptsOf c = xs) : isP (some ⟨g, 0, none⟩) c W := by
  subst hn hx
  exact fun _ => ⟨g, rfl, (own_lt h).2, own_pts h⟩
def backV (cs : List (List Buck)) (r L : Rat) (hL : Fit L) : Int × Int × Int := if prepE cs r = 0 then numV (greatZ (fun z => backO cs r L z) (ticksL (ptsL cs ++ [(⟨L, hL⟩ : Pt)]))) else (0, 0, prepE cs r)

set_option maxRecDepth 100000 in
set_option maxHeartbeats 4000000 in
theorem back_ok (A : Option Addr) (cap : Nat) (cs : List (List Buck)) (hl : cs.length ≤ 32) (r L : Rat) (hr : Fit r) (hr0 : 0 < r) (hL : Fit L) (hL0 : 0 ≤ L) (w : World) (hI : isL A cs w) :
    Calls Tryz.prog 28 #[.slice A cs.length cap, .agg #[.int .i64 r.num, .int .i64 r.den, .int .i64 L.num, .int .i64 L.den]] w fun e w' => e = .returned (ratV (backV cs r L hL)) ∧ Below w.heap.size w w' := by
  have hB0 := (((Below.refl w.heap.size w).alloc (Nat.le_refl _) (.cells #[.slice A cs.length cap] 50)).alloc (by simp) (.cells #[.int .i64 r.num, .int .i64 r.den, .int .i64 L.num, .int .i64 L.den] 52)).alloc (by simp; omega) (.cells #[.int .i64 0, .int .i64 0] 25)
  have bL := ((BoxN.new w 50 #[.slice A cs.length cap]).alloc (.cells #[.int .i64 r.num, .int .i64 r.den, .int .i64 L.num, .int .i64 L.den] 52)).alloc (.cells #[.int .i64 0, .int .i64 0] 25)
  have bS := (BoxN.new (w.alloc (.cells #[.slice A cs.length cap] 50)) 52 #[.int .i64 r.num, .int .i64 r.den, .int .i64 L.num, .int .i64 L.den]).alloc (.cells #[.int .i64 0, .int .i64 0] 25)
  rw [World.size_alloc] at bS
  have bR := BoxN.new ((w.alloc (.cells #[.slice A cs.length cap] 50)).alloc (.cells #[.int .i64 r.num, .int .i64 r.den, .int .i64 L.num, .int .i64 L.den] 52)) 25 #[.int .i64 0, .int .i64 0]
  rw [World.size_alloc, World.size_alloc] at bR
  have HP := prep_ok A cap cs hl r L hr hr0 hL hL0 _ (cl_isL A cs w _ hI hB0)
  have HG : ∀ (b1 b2 A1 cap1 Bt W), BoxN W b1 50 #[.slice A cs.length cap] → BoxN W b2 52 #[.int .i64 r.num, .int .i64 r.den, .int .i64 L.num, .int .i64 L.den] → BoxN W Bt 44 #[.slice A1 (ptsL cs ++ [(⟨L, hL⟩ : Pt)]).length cap1] → isP A1 (ptsL cs ++ [(⟨L, hL⟩ : Pt)]) W → Below w.heap.size w W → prepE cs r = 0 → _ := fun b1 b2 A1 cap1 Bt W h1 h2 h3 h4 h5 h6 =>
    great_bac A cap cs hl r L hr hL b1 b2 (ptsL cs ++ [(⟨L, hL⟩ : Pt)]) (pts_nn2 (prep_ok0 h6) hL0) (by have := ptsL_len (cs := cs) fun c hc => (hI.ok c hc).2; simp; omega) A1 cap1 Bt W h1 h2 (cl_isL A cs w W hI h5) h3 h4
  have hpl := ptsL_len (cs := cs) fun c hc => (hI.ok c hc).2
  have hlen : (ptsL cs ++ [(⟨L, hL⟩ : Pt)]).length = (ptsL cs).length + 1 := by simp
  have hcat : ptsOf (ptsL cs ++ [(⟨L, hL⟩ : Pt)]) = ptsOf (ptsL cs) ++ [.int .i64 L.num, .int .i64 L.den] := ptsOf_snoc _ _
  unfold backV
  generalize prepE cs r = pe at HP HG ⊢
  obtain ⟨gr, hgr⟩ : ∃ gr, numV (greatZ (fun z => backO cs r L z) (ticksL (ptsL cs ++ [(⟨L, hL⟩ : Pt)]))) = gr := ⟨_, rfl⟩
  simp only [hgr] at HG ⊢
  clear hgr
  obtain ⟨gn, gd, ge⟩ := gr
  rw [hlen] at HG
  generalize ptsL cs ++ [(⟨L, hL⟩ : Pt)] = PL at *
  simp only [ratV] at HG
  generalize r.num = rn at *
  generalize (r.den : Int) = rd at *
  generalize L.num = Ln at *
  generalize (L.den : Int) = Ld at *
  have HG := Lib.hid HG
  have HP := Lib.hid HP
  have l0 := bL.cell 0
  have s0 := bS.cell 0
  have s1 := bS.cell 1
  have s2 := bS.cell 2
  have s3 := bS.cell 3
  clear hI
  by_cases hp : pe = 0
  case neg =>
    rw [if_neg hp]
    go_enter Tryz.func28, Tryz.ntmps28
    go_wp2_with fail
    (with_reducible refine (HP.out).mono ?_); rintro e w1 ⟨h1, h2, hb1⟩
    obtain rfl := h1 hp
    have bR1 := bR.below hb1 bR.lt
    have hB := hB0.trans (hb1.mono hB0.size)
    have r0 := bR1.cell 0
    have r1 := bR1.cell 1
    have f0 := bR1.frozen 0
    have f1 := bR1.frozen 1
    have kR := bR1.lt
    clear h1 h2 hb1 bL bS bR l0 s0 s1 s2 s3
    go_wp2
    refine bodyPost_ret (v := ratV (0, 0, pe)) (by simp [results, Tryz.results28, go_sem, ratV, r0, r1]) rfl ⟨rfl, ?_⟩
    (have hBs := hB.size; (try simp only [World.size_alloc] at hBs); repeat' (first | (with_reducible exact hB) | (with_reducible exact hBs) | (with_reducible refine Below.drew ?_) | (with_reducible refine below_drewN ?_ _) | (with_reducible refine Below.setCell ?_ ?_ _) | (with_reducible refine Below.alloc ?_ ?_ _) | go_size | omega | (simp; omega)))
  subst hp
  rw [if_pos rfl]
  go_enter Tryz.func28, Tryz.ntmps28
  go_wp2_with fail
  (with_reducible refine (HP.out).mono ?_); rintro e w1 ⟨h1, h2, hb1⟩
  obtain ⟨v, rfl, hown⟩ := h2 (by simp)
  obtain ⟨i0, hi, hz0, hz1, hz2⟩ := info_parts infoR
  have hB1 := hB0.trans (hb1.mono hB0.size)
  have bL1 := bL.below hb1 bL.lt
  have bS1 := bS.below hb1 bS.lt
  have bR1 := bR.below hb1 bR.lt
  have Hown := Lib.hid (hown.alloc (.cells #[.func (.func 76) #[] #[.pointer (some ⟨w.heap.size, 0, none⟩), .pointer (some ⟨w.heap.size + 1, 0, none⟩)]] 113))
  have hgl : Hid (∀ g, v.ownBlock = some g → w.heap.size + 1 + 1 + 1 + 1 ≤ g ∧ g < w1.heap.size) := fun g hg => by
    rcases own_block hown with rfl | ⟨g', k1, k2, k3⟩
    · cases hg
    · rw [k1] at hg; cases hg; exact ⟨by simpa using k2, k3⟩
  have HBx := Lib.hid (hB1.alloc hB1.size (.cells #[.func (.func 76) #[] #[.pointer (some ⟨w.heap.size, 0, none⟩), .pointer (some ⟨w.heap.size + 1, 0, none⟩)]] 113))
  have bLx := Lib.hid (bL1.alloc (.cells #[.func (.func 76) #[] #[.pointer (some ⟨w.heap.size, 0, none⟩), .pointer (some ⟨w.heap.size + 1, 0, none⟩)]] 113))
  have bSx := Lib.hid (bS1.alloc (.cells #[.func (.func 76) #[] #[.pointer (some ⟨w.heap.size, 0, none⟩), .pointer (some ⟨w.heap.size + 1, 0, none⟩)]] 113))
  have bRx := Lib.hid (bR1.alloc (.cells #[.func (.func 76) #[] #[.pointer (some ⟨w.heap.size, 0, none⟩), .pointer (some ⟨w.heap.size + 1, 0, none⟩)]] 113))
  have bQx := Lib.hid (BoxN.new w1 113 #[.func (.func 76) #[] #[.pointer (some ⟨w.heap.size, 0, none⟩), .pointer (some ⟨w.heap.size + 1, 0, none⟩)]])
  have hzw : (w1.alloc (.cells #[.func (.func 76) #[] #[.pointer (some ⟨w.heap.size, 0, none⟩), .pointer (some ⟨w.heap.size + 1, 0, none⟩)]] 113)).heap.size = w1.heap.size + 1 := World.size_alloc _ _
  have kz : w.heap.size + 1 + 1 + 1 ≤ w1.heap.size := by have := bR1.lt; omega
  clear h1 h2 hown l0 s0 s1 s2 s3 bL bS bR
  have HQ := Lib.hid (fun A1 la cap1 W => points_box A1 la cap1 W)
  have hm := Lib.hid (show (ptsL cs).length + 1 ≤ maxLen by unfold maxLen; omega)
  have hy := Lib.hid (show ((ptsL cs).length + 1) * 16 ≤ 140737488355328 by omega)
  have hone : Hid (∀ u ∈ [Value.int .i64 Ln, .int .i64 Ld], u.oneCell' = true) := by
    intro u hu
    simp only [List.mem_cons, List.not_mem_nil, or_false] at hu
    rcases hu with rfl | rfl <;> rfl
  go_wp2_with fail
  generalize hWW : w1.alloc (.cells #[.func (.func 76) #[] #[.pointer (some ⟨w.heap.size, 0, none⟩), .pointer (some ⟨w.heap.size + 1, 0, none⟩)]] 113) = W2 at *
  have k8 : w1.heap.size < W2.heap.size := by omega
  have s2 := bSx.out.cell 2
  have s3 := bSx.out.cell 3
  have e8 := bQx.out.cell 0
  have kS : w.heap.size + 1 < W2.heap.size := by omega
  have kR : w.heap.size + 1 + 1 < W2.heap.size := by omega
  have HGx : Hid (∀ (g cap5 Bt : Nat) (W : World), Below (w.heap.size + 1 + 1 + 1) W2 W → BoxN W Bt 44 #[.slice (some ⟨g, 0, none⟩) ((ptsL cs).length + 1) cap5] → isP (some ⟨g, 0, none⟩) PL W → _) := fun g cap5 Bt W k1 k2 k3 =>
    HG.out w.heap.size (w.heap.size + 1) (some ⟨g, 0, none⟩) cap5 Bt W (bLx.out.below k1 (by omega)) (bSx.out.below k1 (by omega)) k2 k3 (HBx.out.trans (k1.mono (by omega))) (by simp)
  have HLC := Lib.hid (show PL.length = (ptsL cs).length + 1 ∧ ptsOf PL = ptsOf (ptsL cs) ++ [.int .i64 Ln, .int .i64 Ld] from ⟨hlen, hcat⟩)
  clear HG HP hlen hcat
  go_region_law (first
    | (refine step_append_lies _ rfl (.tmp 22) (.tmp 25) 44 rfl _ 25 i0 _ 2 16 Tryz.underlying44 hi hz0 hz1 hz2 rfl (by decide) v (ptsL cs).length (ptsOf (ptsL cs)) ?_ ((World.ownsRow.drew Hown.out).alloc _) ⟨W2.heap.size, 0, none⟩ 1 1 [.int .i64 Ln, .int .i64 Ld] ?_ rfl (World.news_of_block (heap_alloc_new W2.drew _)) hone.out (by decide) hm.out hy.out ?_ _ rfl ?_; (simp [Act.eval] <;> fail); (simp [Act.eval] <;> fail); (first | omega | (simp; omega)); intro g5 cap5 w5 hown5 hgrow5 hat5 hlt5; have hb5 : Below (w.heap.size + 1 + 1 + 1) W2 w5 := Below.grown (((Below.refl _ _).drew).alloc (by simp; omega) _) hgrow5 (by simp; omega) (fun j e => by have := hgl.out j e; omega); have bq5 := (BoxN.alloc (W := W2.drew) bQx.out _).kept hgrow5 (fun e => by have := hgl.out _ e.symm; omega); have br5 := bRx.out.below hb5 (by omega); have hp5 := own_isP2 hown5 HLC.out.1 HLC.out.2; have e85 := bq5.cell 0; have k85 := bq5.lt; have r05 := br5.cell 0; have r15 := br5.cell 1; have f05 := br5.frozen 0; have f15 := br5.frozen 1; have k5 := br5.lt)
    | ((try go_simp); (first | go_at_call 73 | skip); (with_reducible refine (HQ.out _ _ _ _).mono ?_); rintro e v1 ⟨Bt, rfl, hbt, hbp⟩; have hb1 := hb5.trans (hbp.mono (by have := hb5.size; omega)); have bq1 := bq5.below hbp bq5.lt; have br1 := br5.below hbp br5.lt; have hp1 := cl_isP _ _ _ _ hp5 hbp; have e81 := bq1.cell 0; have k81 := bq1.lt; have r01 := br1.cell 0; have r11 := br1.cell 1; have f01 := br1.frozen 0; have f11 := br1.frozen 1; have k1 := br1.lt)
    | ((try go_simp); (first | go_at_call 72 | skip); (with_reducible refine (HGx.out _ _ Bt _ hb1 hbt hp1).mono ?_); rintro e v2 ⟨rfl, hbg⟩; have hb2 := hb1.trans (hbg.mono (by have := hb1.size; omega)); have br2 := br1.below hbg br1.lt; have r02 := br2.cell 0; have r12 := br2.cell 1; have f02 := br2.frozen 0; have f12 := br2.frozen 1; have k2 := br2.lt))
  all_goals
    have hB := HBx.out.trans (hb2.mono (by omega))
    go_wp2_with fail
    refine bodyPost_ret (v := ratV (gn, gd, ge)) (by simp [results, Tryz.results28, go_sem, ratV, r02, r12]) rfl ⟨rfl, ?_⟩
    (have hBs := hB.size; (try simp only [World.size_alloc] at hBs); repeat' (first | (with_reducible exact hB) | (with_reducible exact hBs) | (with_reducible refine Below.drew ?_) | (with_reducible refine below_drewN ?_ _) | (with_reducible refine Below.setCell ?_ ?_ _) | (with_reducible refine Below.alloc ?_ ?_ _) | go_size | omega | (simp; omega)))
end Go.Proofs.YtbncfknjgldcbaaGreat
