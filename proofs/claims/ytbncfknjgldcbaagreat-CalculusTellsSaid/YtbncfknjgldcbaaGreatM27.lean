/- Merged texts: TChk. -/
import Derived.Test.YtbncfknjgldcbaaGreatM22
import Derived.Test.YtbncfknjgldcbaaGreatM24
import Derived.Test.YtbncfknjgldcbaaGreatM25
import Derived.Test.YtbncfknjgldcbaaGreatM26
import Derived.Test.YtbncfknjgldcbaaGreatM9
import Derived.Test.YtbncfknjgldcbaaGreatM14
import Derived.Maps.AppendAt
/- The reference's check of valid arguments. -/
namespace Go.Proofs.YtbncfknjgldcbaaGreat
open Go.RowKit Go.Joins Go.Shelf Go.Sort Num

/-- An append to an own row: it stays where it is, or lies in a new block. -/
theorem app_at {P : Program} (w : World) {ops : Array Oper} {rest : List Oper} {o : Oper} {a : Act} {Q : Exit → Act → World → Prop} (hgd : o.guard = none) (s x : Operand) (t : TypeId)
    (ho : o.op = .call { callee := .builtin .append, args := #[s, x], argTypes := #[t, t] })
    (base : Nat) (e : TypeId) (i : TypeInfo) (z : Value) (size bytes : Nat) (ht : P.underlying t = some (.slice e)) (hi : P.info? e = some i) (hz : i.zero = some z)
    (hsize : i.size = size) (hby : i.bytes = bytes) (hzs : z.cells.size = size) (hsz : 0 < size)
    (sv : Value) (n : Nat) (xs : List Value) (hs : a.eval s = sv) (hown : w.ownsRow base e size sv n xs)
    (A : Option Addr) (m c : Nat) (news : List Value) (hx : a.eval x = .slice A m c) (hl : news.length = m * size) (hp : m ≠ 0 → ∃ ad, A = some ad ∧ ∀ j u, news[j]? = some u → w.cell? (ad.add j) = some u) (h1 : ∀ u ∈ news, u.oneCell' = true)
    (h63 : n + m ≤ maxLen) (hbytes : (n + m) * bytes ≤ 140737488355328) (hbase : base ≤ w.heap.size)
    (h : ∀ v' w', w'.ownsRow base e size v' (n + m) (xs ++ news) → w.grownBy w' sv.ownBlock → (v'.ownBlock = sv.ownBlock ∨ v'.ownBlock = some w.heap.size) → wpList P ops Q rest (a.put o.dst v') w') : wpList P ops Q (o :: rest) a w := by
  have h0 : m = 0 → news = [] := fun k => by subst k; exact List.eq_nil_of_length_eq_zero (by simpa using hl)
  rcases A with _ | ad
  · have hm : m = 0 := by
      by_cases k : m = 0
      · exact k
      · obtain ⟨_, h, _⟩ := hp k; cases h
    subst hm
    obtain rfl := h0 rfl
    have hrun : (Builtin.append_ #[t, t] o.type #[sv, .slice none 0 c]).run P w = .ok sv w := by
      rcases hown.2 with ⟨rfl, rfl⟩ | ⟨g, cap, cur, rfl, _, _, hnc, _⟩
      · simp [Builtin.append_, run_underlying ht, sizeOf, typeInfo, hi, Builtin.lenOf, Builtin.firstCells]
      · simp [Builtin.append_, run_underlying ht, sizeOf, typeInfo, hi, Builtin.lenOf, Builtin.firstCells, hnc, storeCells]
    refine wpList_plain hgd fun K hK => ?_
    unfold Oper.wp
    simp [execOp, ho, resolve, invoke, builtin, hs, hx, hrun, Result.andThen]
    exact hK _ _ (h sv w (by simpa using hown) (World.grownBy.refl _ _) (.inl rfl))
  · refine wpList_append_own_at w hgd s x t ho base e i z size bytes ht hi hz hsize hby hzs hsz sv n xs hs hown ad m c news hx hl ?_ h1 h63 hbytes hbase fun v' w' h2 h3 _ h5 => h v' w' h2 h3 h5
    intro j u hu
    by_cases k : m = 0
    · rw [h0 k] at hu; simp at hu
    · obtain ⟨ad', e1, e2⟩ := hp k
      cases e1
      exact e2 j u hu
/-- Two stores elsewhere leave an own row. -/
theorem own_far2 {w : World} {base : Nat} {e : TypeId} {size n : Nat} {v : Value} {xs : List Value} (h : w.ownsRow base e size v n xs) {g B : Nat} (hv : v.ownBlock = some g) (hg : g ≠ B) (a b : Value) : ((w.setCell ⟨B, 0, none⟩ a).setCell ⟨B, 1, none⟩ b).ownsRow base e size v n xs := by
  refine h.kept (row := some B) ⟨rfl, rfl, rfl, by simp, fun k _ hne => ?_⟩ (.inr (by rw [hv]; intro e; exact hg (Option.some.inj e)))
  rw [Below.heap_setCell _ _ _ _ (by simpa using fun e => hne (by rw [e])), Below.heap_setCell _ _ _ _ (by simpa using fun e => hne (by rw [e]))]
theorem outP_is {W : World} {v : Value} {c : List Pt} (h : Ref.OutP W v c) : ∃ A cap, v = .slice A c.length cap ∧ isP A c W := by
  obtain ⟨A, cap, rfl⟩ := h.form
  refine ⟨A, cap, rfl, fun hc => ?_⟩
  obtain ⟨g, e, h1, h2⟩ := h.cells hc
  exact ⟨g, e, h1, h2⟩
theorem arP_app (a b : List Pt) : arP (a ++ b) = arP a ++ arP b := by simp [arP]
/-- The points of the reference. -/
def chP (cs : List (List Buck)) : List Pt := ptZ 0 :: arP (ptsL cs)
theorem brk_nn {c : List Buck} (h : ∀ p ∈ twosL (normL c), okm p) : ∀ p ∈ brkL (normL c), 0 ≤ p.q := fun p hp => pts_nn (cs := [c]) (fun d hd => by rw [List.mem_singleton.1 hd]; exact h) p (by simpa [ptsL] using hp)

set_option maxRecDepth 100000 in
set_option maxHeartbeats 8000000 in
theorem rcheck_ok (A : Option Addr) (cap : Nat) (cs : List (List Buck)) (hl : cs.length ≤ 32) (r L : Rat) (hr : Fit r) (hr0 : 0 < r) (hL : Fit L) (hL0 : 0 ≤ L) (w : World) (hI : isL A cs w) :
    Calls Tryz.prog 74 #[.slice A cs.length cap, .agg #[.int .i64 r.num, .int .i64 r.den, .int .i64 L.num, .int .i64 L.den]] w fun e w' =>
      (prepE cs r ≠ 0 → e = .returned (.tuple #[.slice none 0 0, .int .i64 (prepE cs r)])) ∧ (prepE cs r = 0 → ∃ v, e = .returned (.tuple #[v, .int .i64 0]) ∧ w'.ownsRow (w.heap.size + 1) 25 2 v (chP cs).length (ptsOf (chP cs))) ∧ Below w.heap.size w w' := by
  obtain ⟨i0, hi, hz0, hz1, hz2⟩ := info_parts infoR
  have hB0 := Lib.hid ((Below.refl w.heap.size w).alloc (Nat.le_refl _) (.cells #[.int .i64 r.num, .int .i64 r.den, .int .i64 L.num, .int .i64 L.den] 52))
  have bS0 := BoxN.new w 52 #[.int .i64 r.num, .int .i64 r.den, .int .i64 L.num, .int .i64 L.den]
  have h1 := fit_bd hr
  have h2 := fit_bd hL
  have HV := fun W => rserver_any r.num r.den L.num L.den (by unfold I64; omega) (by unfold I64; omega) (by unfold I64; omega) (by unfold I64; omega) W
  rw [srv_yes hr hr0 hL hL0] at HV
  have HM : Hid (∀ (x : Rat) (_ : Fit x) (W : World), Calls Tryz.prog 53 #[.agg #[.int .i64 x.num, .int .i64 x.den], .agg #[.int .i64 r.num, .int .i64 r.den]] W fun e w' => e = .returned (.int .i64 (cmpQ x r)) ∧ Below W.heap.size W w') := fun x hx W => Ref.cmp_r hx hr W
  obtain ⟨hok, vs, hvl, hv, hvc⟩ := hI
  have HX : Hid (∀ (j : Nat) (v : Value) (c : List Buck), vs[j]? = some v → cs[j]? = some c → (∃ (B : Option Addr) (lc cb : Nat), v = .slice B lc cb ∧ (∀ W : World, Below w.heap.size w W → Calls Tryz.prog 13 #[.slice B lc cb] W fun e w' => e = .returned (.bool true) ∧ Below W.heap.size W w') ∧ (∀ W : World, Below w.heap.size w W → Calls Tryz.prog 24 #[.slice B lc cb] W (Ref.BreaksPost (normL c) W)) ∧ (∀ W : World, Below w.heap.size w W → Calls Tryz.prog 11 #[.slice B lc cb] W fun e w' => e = .returned (ratV ((rateL c).num, ((rateL c).den : Int), 0)) ∧ Below W.heap.size W w'))) := fun j v c k1 k2 => by
    obtain ⟨B, cb, rfl, hi⟩ := hvc j v c k1 k2
    obtain ⟨m1, m2⟩ := hok c (List.mem_of_getElem? k2)
    exact ⟨B, c.length, cb, rfl, fun W hW => Ref.valid_ok m1 m2 (cl_isC B cb c w W hi hW), fun W hW => Ref.breaks_ok B cb c m1 m2 W (cl_isC B cb c w W hi hW), fun W hW => Ref.rate_ok B cb c m1 m2 W (cl_isC B cb c w W hi hW)⟩
  have HAd : Hid (∀ (x y : Rat) (W : World), Fit x → Fit y → Calls Tryz.prog 60 #[.int .i64 0, .agg #[.int .i64 x.num, .int .i64 x.den], .agg #[.int .i64 y.num, .int .i64 y.den]] W fun e w' => e = .returned (ratV (numV (if Fit (x + y) then some (x + y) else none))) ∧ Below W.heap.size W w') := fun x y W hx hy => by
    have := Ref.add_r hx hy W
    rw [ofR_num] at this
    exact this
  have hlens := Lib.hid fun c hc => (hok c hc).2
  have hv' := Lib.hid hv
  have z : decide ((32 : Int) < cs.length) = false := by simp; omega
  have s0 := bS0.cell 0
  have s1 := bS0.cell 1
  have s2 := bS0.cell 2
  have s3 := bS0.cell 3
  obtain ⟨res, hres⟩ : ∃ res, prepE cs r = res := ⟨_, rfl⟩
  rw [hres]
  replace hres := Lib.hid hres
  generalize r.num = rn at *
  generalize (r.den : Int) = rd at *
  generalize L.num = Ln at *
  generalize (L.den : Int) = Ld at *
  replace HV := Lib.hid HV
  clear h1 h2 hL0 hL hr hok hvc hv
  go_enter Tryz.func74, Tryz.ntmps74
  go_wp2_with fail
  (with_reducible refine (HV.out _).mono ?_); rintro _ w1 ⟨rfl, hb1⟩
  have hB1 := Lib.hid (hB0.out.trans (hb1.mono hB0.out.size))
  have bS1 := Lib.hid (bS0.below hb1 bS0.lt)
  clear s0 s1 s2 s3 hb1 hB0 bS0 HV
  go_wp2_with fail
  go_loopw [6] (fun i wr => ∃ k : Nat, k ≤ cs.length ∧ i = .int .i64 ↑k ∧ Hid (Below w1.heap.size w1 wr)) (fun i _ => cs.length - (intOf i).toNat)
  case atStart => exact ⟨0, Nat.zero_le _, rfl, Below.refl _ _⟩
  case round =>
    obtain ⟨k, hk, rfl, hB⟩ := hrel
    have hBw := Lib.hid (hB1.out.trans (hB.out.mono hB1.out.size))
    by_cases hlt : k < cs.length
    · have hd : decide ((k : Int) < cs.length) = true := decide_eq_true (by omega)
      have hv0 : vs[k]? = some (vs[k]'(by omega)) := List.getElem?_eq_getElem (by omega)
      obtain ⟨v, hve⟩ : ∃ v, vs[k]'(by omega) = v := ⟨_, rfl⟩
      rw [hve] at hv0
      have hc : cs[k]? = some (cs[k]'hlt) := List.getElem?_eq_getElem hlt
      obtain ⟨Bc, lc, cc, rfl, HVx, -, -⟩ := HX.out k v _ hv0 hc
      obtain ⟨b, off, rfl, hb, hr⟩ := (cl_isV A vs w _ hv'.out hBw.out) (by intro e; rw [e] at hv0; simp at hv0)
      have c0 := hr k _ hv0
      have HVy := Lib.hid (HVx wr hBw.out)
      clear hv0 hve hc hr HVx
      go_wp2_with fail
      (with_reducible refine (HVy.out).mono ?_); rintro _ w3 ⟨rfl, hb3⟩
      have hB3 := Lib.hid (hB.out.trans (hb3.mono hB.out.size))
      clear hb3 c0
      go_wp2_with fail
      go_roundw
      case rel => exact ⟨k + 1, by omega, by go_num, hB3.out⟩
      case measure => simp [intOf]; omega
    · obtain rfl : k = cs.length := by omega
      have bS2 := Lib.hid (bS1.out.below hB.out bS1.out.lt)
      clear hB hB1 bS1
      obtain ⟨Y, hY⟩ : ∃ Y, Y = wr := ⟨_, rfl⟩
      subst hY
      have hYw := hBw.out.size
      have hown0 : (Y.alloc (.cells #[.int .i64 0, .int .i64 1] 25)).ownsRow (w.heap.size + 1) 25 2 (.slice (some ⟨Y.heap.size, 0, none⟩) 1 1) 1 [.int .i64 0, .int .i64 1] := ⟨by simp, .inr ⟨Y.heap.size, 1, #[.int .i64 0, .int .i64 1], rfl, by have := bS2.out.lt; omega, heap_alloc_new Y _, by decide, by decide, rfl, by simp⟩⟩
      have hownA := Lib.hid (hown0.alloc (.cells #[.int .i64 0, .int .i64 1] 25))
      have bQ0 := BoxN.new (Y.alloc (.cells #[.int .i64 0, .int .i64 1] 25)) 25 #[.int .i64 0, .int .i64 1]
      rw [World.size_alloc] at bQ0
      have bQ := Lib.hid bQ0
      have bS3 := Lib.hid ((bS2.out.alloc (.cells #[.int .i64 0, .int .i64 1] 25)).alloc (.cells #[.int .i64 0, .int .i64 1] 25))
      have hBY := Lib.hid ((hBw.out.alloc hBw.out.size (.cells #[.int .i64 0, .int .i64 1] 25)).alloc (by have := hBw.out.size; simp; omega) (.cells #[.int .i64 0, .int .i64 1] 25))
      have hpz : Hid (ptsOf (chP (cs.take 0)) = [.int .i64 0, .int .i64 1]) := by
        unfold Hid
        show (ptZ 0).cells ++ [] = _
        rw [ptZ_cells (by decide)]; rfl
      clear hown0 bQ0 bS2 hBw
      go_wp2_with fail
      go_loopw [7, 9, 10] (fun v lg i z => ∃ (k nl c g : Nat) (b : Bool) (sn sd : Int), k ≤ cs.length ∧ i = .int .i64 ↑k ∧ v = .slice (some ⟨g, 0, none⟩) nl c ∧ lg = .bool b ∧ Hid (g ≠ Y.heap.size + 1) ∧ Hid (nl = (chP (cs.take k)).length) ∧ Hid (z.ownsRow (w.heap.size + 1) 25 2 (.slice (some ⟨g, 0, none⟩) nl c) nl (ptsOf (chP (cs.take k)))) ∧ Hid (BoxN z (Y.heap.size + 1) 25 #[.int .i64 sn, .int .i64 sd]) ∧ Hid (BoxN z w.heap.size 52 #[.int .i64 rn, .int .i64 rd, .int .i64 Ln, .int .i64 Ld]) ∧ Hid (brksOk (cs.take k)) ∧ Hid (b = false → ∃ s : Rat, Fit s ∧ sumO ((cs.map fun c => some (rateL c)).take k) = some s ∧ sn = s.num ∧ sd = s.den) ∧ Hid (b = true → sumO ((cs.map fun c => some (rateL c)).take k) = none) ∧ Hid (Below w.heap.size w z))
        (fun _ _ i _ => cs.length - (intOf i).toNat)
      case atStart => exact ⟨0, 1, 1, Y.heap.size, false, 0, 1, Nat.zero_le _, rfl, rfl, rfl, by unfold Hid; omega, rfl, by rw [hpz.out]; exact hownA.out, bQ.out, bS3.out, by intro c hc; simp at hc, fun _ => ⟨0, ⟨by decide, by decide⟩, rfl, rfl, rfl⟩, (fun h => by cases h), hBY.out⟩
      case round =>
        obtain ⟨k, nl, c, g, lg, sn, sd, hk, rfl, rfl, rfl, hgn, hnl, hown, bQ, bS, hbk, hlf, hlt', hB⟩ := hrel
        clear hownA bS3 hBY
        have hpl := ptsL_len (cs := cs.take k) fun x hx => hlens.out x (List.mem_of_mem_take hx)
        rw [List.length_take] at hpl
        have hnlb : nl ≤ 100000 := by
          have := hnl.out
          unfold chP at this
          rw [List.length_cons, arP_len] at this
          omega
        by_cases hlt : k < cs.length
        · have hd : decide ((k : Int) < cs.length) = true := decide_eq_true (by omega)
          have hv0 : vs[k]? = some (vs[k]'(by omega)) := List.getElem?_eq_getElem (by omega)
          obtain ⟨v, hve⟩ : ∃ v, vs[k]'(by omega) = v := ⟨_, rfl⟩
          rw [hve] at hv0
          have hc : cs[k]? = some (cs[k]'hlt) := List.getElem?_eq_getElem hlt
          obtain ⟨cv, hcv⟩ : ∃ c, cs[k]'hlt = c := ⟨_, rfl⟩
          rw [hcv] at hc
          obtain ⟨Bc, lc, cc, rfl, -, HBx, HRx⟩ := HX.out k v _ hv0 hc
          obtain ⟨b, off, rfl, hb, hr⟩ := hv'.out (by intro e; rw [e] at hv0; simp at hv0)
          have hcw : Hid (∀ W : World, Below w.heap.size w W → b < W.heap.size ∧ W.cell? ⟨b, off + k, none⟩ = some (.slice Bc lc cc)) := fun W hW => ⟨Nat.lt_of_lt_of_le hb hW.size, (hW.cell (p := ⟨b, off + k, none⟩) hb).trans (hr k _ hv0)⟩
          obtain ⟨l0, c0⟩ := hcw.out _ hB.out
          have HBy := Lib.hid (HBx _ hB.out)
          have HRx := Lib.hid HRx
          have hmem := List.mem_of_getElem? hc
          have hbl := brk_len (hlens.out cv hmem)
          have hts := Lib.hid (take_succ' hc)
          have hno : Hid ((¬ ∀ p ∈ twosL (normL cv), okm p) → res = 3) := fun h => by rw [← hres.out]; exact if_neg fun h' => h (h' cv hmem)
          have hyes : Hid ((∀ p ∈ twosL (normL cv), okm p) → brksOk (cs.take (k + 1))) := fun h => by
            rw [hts.out]
            intro x hx
            rcases List.mem_append.1 hx with hx | hx
            · exact hbk.out x hx
            · simp at hx; subst hx; exact h
          have hsm : Hid (sumO ((cs.map fun c => some (rateL c)).take (k + 1)) = addO (sumO ((cs.map fun c => some (rateL c)).take k)) (some (rateL cv))) := by
            unfold Hid
            rw [take_succ' (l := cs.map fun c => some (rateL c)) (x := some (rateL cv)) (by rw [List.getElem?_map, hc]; rfl), sumO_snoc]
          clear hv0 hve hc hcv hr hmem HBx
          go_wp2_with fail
          (with_reducible refine (HBy.out).mono ?_); rintro e w3 ⟨hp1, hp2, hb3⟩
          have hB3 := Lib.hid (hB.out.trans (hb3.mono hB.out.size))
          have hown3 := own_below hown.out hb3
          have bQ3 := bQ.out.below hb3 bQ.out.lt
          have bS3 := bS.out.below hb3 bS.out.lt
          clear c0 l0 HBy hb3 hown bQ bS hB
          by_cases hall : ∀ p ∈ twosL (normL cv), okm p
          · obtain ⟨v3, rfl, hout⟩ := hp2 hall
            obtain ⟨A3, c3, rfl, hpt⟩ := outP_is hout
            have hok2 := Lib.hid (hyes.out hall)
            have HAr := Lib.hid (raround_any A3 c3 (brkL (normL cv)) (brk_nn hall) (by omega) w3 hpt)
            clear hp1 hp2 hno hyes hall hout hpt
            have hpts : Hid (chP (cs.take (k + 1)) = chP (cs.take k) ++ arP (brkL (normL cv))) := by unfold Hid chP; rw [hts.out, ptsL_snoc, arP_app]; rfl
            go_wp2_with fail
            (with_reducible refine (HAr.out).mono ?_); rintro e w4 ⟨v4, rfl, hown4, hb4⟩
            obtain ⟨A4, c4, rfl, hpt4⟩ := own_isP hown4
            have hB4 := Lib.hid (hB3.out.trans (hb4.mono hB3.out.size))
            have hownB := Lib.hid (own_below hown3 hb4)
            have bQ4 := bQ3.below hb4 bQ3.lt
            have bS4 := bS3.below hb4 bS3.lt
            have hal : (arP (brkL (normL cv))).length ≤ 3000 := by rw [arP_len]; omega
            have hm := Lib.hid (show nl + (arP (brkL (normL cv))).length ≤ maxLen by unfold maxLen; omega)
            have hy := Lib.hid (show (nl + (arP (brkL (normL cv))).length) * 16 ≤ 140737488355328 by omega)
            have hcell : Hid ((arP (brkL (normL cv))).length ≠ 0 → ∃ ad, A4 = some ad ∧ ∀ j u, (ptsOf (arP (brkL (normL cv))))[j]? = some u → w4.cell? (ad.add j) = some u) := fun h => by
              obtain ⟨g, rfl, hg, hr⟩ := hpt4 (fun h' => h (by rw [h']; rfl))
              exact ⟨_, rfl, fun j u hu => row_pts hr j u hu⟩
            have hbs4 := Lib.hid (show w.heap.size + 1 ≤ w4.heap.size by have := bS4.lt; omega)
            have hlq : Hid ((ptsOf (arP (brkL (normL cv)))).length = (arP (brkL (normL cv))).length * 2) := ptsOf_length _
            have hone := Lib.hid (Ref.onep_all (arP (brkL (normL cv))))
            have hnl2 : Hid (nl + (arP (brkL (normL cv))).length = (chP (cs.take (k + 1))).length) := by unfold Hid; rw [hpts.out, List.length_append, hnl.out]
            have hpc : Hid (ptsOf (chP (cs.take (k + 1))) = ptsOf (chP (cs.take k)) ++ ptsOf (arP (brkL (normL cv)))) := by unfold Hid; rw [hpts.out]; exact List.flatMap_append
            generalize ptsOf (arP (brkL (normL cv))) = news at *
            generalize (arP (brkL (normL cv))).length = na at *
            clear hown4 hb4 hpt4 hown3 bQ3 bS3 hpts hal
            go_wp2_with (at_builtin; refine app_at _ rfl _ _ 44 rfl (w.heap.size + 1) 25 i0 _ 2 16 Tryz.underlying44 hi hz0 hz1 hz2 rfl (by decide) _ nl (ptsOf (chP (cs.take k))) rfl hownB.out A4 na c4 news rfl hlq.out hcell.out hone.out hm.out hy.out hbs4.out ?_; intro v5 w5 hown5 hg5 hloc; have hB5q : Below w.heap.size w w5 := hB4.out.grown hg5 hB4.out.size (fun j e => by have := own_block_le hownB.out e; omega); obtain ⟨l5, c5'⟩ := hcw.out _ hB5q)
            have hnl1 : 1 ≤ nl := by have := hnl.out; unfold chP at this; rw [List.length_cons] at this; omega
            obtain ⟨G5, c5, rfl⟩ : ∃ G c, v5 = .slice (some ⟨G, 0, none⟩) (nl + na) c := by
              rcases hown5.2 with ⟨-, h0⟩ | ⟨G, cap, cur, e, -⟩
              · omega
              · exact ⟨G, cap, e⟩
            have hgw : w.heap.size + 1 ≤ g := own_block_le hownB.out rfl
            have hB5 := Lib.hid hB5q
            have bQ5 : BoxN w5 (Y.heap.size + 1) 25 #[.int .i64 sn, .int .i64 sd] := (hg5.block _ bQ4.lt (by intro e; exact hgn.out (Option.some.inj e).symm)).trans bQ4
            have bS5 : BoxN w5 w.heap.size 52 #[.int .i64 rn, .int .i64 rd, .int .i64 Ln, .int .i64 Ld] := (hg5.block _ bS4.lt (by intro e; have : w.heap.size = g := Option.some.inj e; omega)).trans bS4
            have hG5 : Hid (G5 ≠ Y.heap.size + 1) := by
              unfold Hid
              rcases hloc with h | h
              · have e : G5 = g := Option.some.inj h
                rw [e]; exact hgn.out
              · have e : G5 = w4.heap.size := Option.some.inj h
                have := bQ4.lt
                omega
            rw [← hpc.out] at hown5
            have HRy := Lib.hid (HRx.out w5 hB5.out)
            have hfr : Hid (Fit (rateL cv)) := Ref.rateL_fit cv
            have HAx := Lib.hid (fun (s : Rat) (hs : Fit s) (W : World) => HAd.out s (rateL cv) W hs hfr.out)
            obtain ⟨qn, hqn⟩ : ∃ z, (rateL cv).num = z := ⟨_, rfl⟩
            obtain ⟨qd, hqd⟩ : ∃ z, ((rateL cv).den : Int) = z := ⟨_, rfl⟩
            rw [hqn, hqd] at HRy HAx
            simp only [ratV] at HRy
            clear hg5 hloc hownB hqn hqd hpc hcell hlq hone hm hy bQ4 bS4 hB4 HRx hB5q
            (with_reducible refine (HRy.out).mono ?_); rintro _ w6 ⟨rfl, hb6⟩
            have hB6 := Lib.hid (hB5.out.trans (hb6.mono hB5.out.size))
            have hown6 := Lib.hid ((own_below hown5 hb6).alloc (.cells #[.int .i64 qn, .int .i64 qd] 25))
            have bQ6 := (bQ5.below hb6 bQ5.lt).alloc (.cells #[.int .i64 qn, .int .i64 qd] 25)
            have bS6 := Lib.hid ((bS5.below hb6 bS5.lt).alloc (.cells #[.int .i64 qn, .int .i64 qd] 25))
            have hB7 := Lib.hid (hB6.out.alloc hB6.out.size (.cells #[.int .i64 qn, .int .i64 qd] 25))
            clear hown5 bQ5 bS5 hb6 l5 c5' HRy hB5
            cases lg with
            | true =>
              have hn2 : Hid (sumO ((cs.map fun c => some (rateL c)).take (k + 1)) = none) := by unfold Hid; rw [hsm.out, hlt'.out rfl]; rfl
              have bQ7 := Lib.hid bQ6
              clear bQ6
              go_wp2_with fail
              go_roundw
              case rel => exact ⟨k + 1, nl + na, c5, G5, true, sn, sd, by omega, by go_num, rfl, rfl, hG5.out, hnl2.out, hown6.out, bQ7.out, bS6.out, hok2.out, (fun h => by cases h), fun _ => hn2.out, hB7.out⟩
              case measure => simp [intOf]; omega
            | false =>
              obtain ⟨s, hfs, hss, rfl, rfl⟩ := hlf.out rfl
              have u0 := bQ6.cell 0
              have u1 := bQ6.cell 1
              have kQ := bQ6.lt
              have HAy := HAx.out s hfs
              have hsm2 : Hid (sumO ((cs.map fun c => some (rateL c)).take (k + 1)) = if Fit (s + rateL cv) then some (s + rateL cv) else none) := by unfold Hid; rw [hsm.out, hss]; rfl
              obtain ⟨xn, hxn⟩ : ∃ z, s.num = z := ⟨_, rfl⟩
              obtain ⟨xd, hxd⟩ : ∃ z, (s.den : Int) = z := ⟨_, rfl⟩
              rw [hxn] at u0 HAy bQ6
              rw [hxd] at u1 HAy bQ6
              clear hlf hlt' hsm hss hxn hxd HAx
              by_cases hf : Fit (s + rateL cv)
              · rw [if_pos hf] at HAy hsm2
                simp only [numV, ratV] at HAy
                replace HAy := Lib.hid HAy
                obtain ⟨sv, hsv⟩ : ∃ z, s + rateL cv = z := ⟨_, rfl⟩
                rw [hsv] at HAy hf hsm2
                clear hsv
                obtain ⟨an, han⟩ : ∃ z, sv.num = z := ⟨_, rfl⟩
                obtain ⟨ad, had⟩ : ∃ z, (sv.den : Int) = z := ⟨_, rfl⟩
                rw [han, had] at HAy
                have hse : Hid (∃ s : Rat, Fit s ∧ sumO ((cs.map fun c => some (rateL c)).take (k + 1)) = some s ∧ an = s.num ∧ ad = s.den) := ⟨sv, hf, hsm2.out, han.symm, had.symm⟩
                clear han had hf
                go_wp2_with fail
                (with_reducible refine (HAy.out _).mono ?_); rintro _ w7 ⟨rfl, hb7⟩
                have hB8' := hB7.out.trans (hb7.mono hB7.out.size)
                have bQ7 := bQ6.below hb7 bQ6.lt
                have bS7 := bS6.out.below hb7 bS6.out.lt
                have hown7 := own_below hown6.out hb7
                have hYz : w.heap.size ≤ Y.heap.size + 1 := by omega
                have hown8 := Lib.hid (own_far2 hown7 (g := G5) rfl hG5.out (.int .i64 an) (.int .i64 ad))
                have u0 := bQ7.cell 0
                have u1 := bQ7.cell 1
                have v0 := bQ7.frozen 0
                have v1 := bQ7.frozen 1
                have kQ := bQ7.lt
                have bQ8 := Lib.hid (bQ7.set2 (.int .i64 an) (.int .i64 ad))
                have bS8 := Lib.hid ((bS7.far (p := ⟨Y.heap.size + 1, 0, none⟩) (by simp; omega) (.int .i64 an)).far (p := ⟨Y.heap.size + 1, 1, none⟩) (by simp; omega) (.int .i64 ad))
                have hB8 := Lib.hid ((hB8'.setCell (p := ⟨Y.heap.size + 1, 0, none⟩) (by simp; omega) (.int .i64 an)).setCell (p := ⟨Y.heap.size + 1, 1, none⟩) (by simp; omega) (.int .i64 ad))
                clear hb7 hB8' bQ7 bS7 hown7 bQ6
                go_wp2_with fail
                go_roundw
                case rel => exact ⟨k + 1, nl + na, c5, G5, false, an, ad, by omega, by go_num, rfl, rfl, hG5.out, hnl2.out, hown8.out, bQ8.out, bS8.out, hok2.out, fun _ => hse.out, (fun h => by cases h), hB8.out⟩
                case measure => simp [intOf]; omega
              · rw [if_neg hf] at HAy
                have hn2 : Hid (sumO ((cs.map fun c => some (rateL c)).take (k + 1)) = none) := by unfold Hid; rw [hsm2.out, if_neg hf]
                simp only [numV, ratV] at HAy
                replace HAy := Lib.hid HAy
                clear hf hsm2
                go_wp2_with fail
                (with_reducible refine (HAy.out _).mono ?_); rintro _ w7 ⟨rfl, hb7⟩
                have hB8' := hB7.out.trans (hb7.mono hB7.out.size)
                have bQ7 := bQ6.below hb7 bQ6.lt
                have bS7 := bS6.out.below hb7 bS6.out.lt
                have hown7 := own_below hown6.out hb7
                have hYz : w.heap.size ≤ Y.heap.size + 1 := by omega
                have hown8 := Lib.hid (own_far2 hown7 (g := G5) rfl hG5.out (.int .i64 0) (.int .i64 0))
                have u0 := bQ7.cell 0
                have u1 := bQ7.cell 1
                have v0 := bQ7.frozen 0
                have v1 := bQ7.frozen 1
                have kQ := bQ7.lt
                have bQ8 := Lib.hid (bQ7.set2 (.int .i64 0) (.int .i64 0))
                have bS8 := Lib.hid ((bS7.far (p := ⟨Y.heap.size + 1, 0, none⟩) (by simp; omega) (.int .i64 0)).far (p := ⟨Y.heap.size + 1, 1, none⟩) (by simp; omega) (.int .i64 0))
                have hB8 := Lib.hid ((hB8'.setCell (p := ⟨Y.heap.size + 1, 0, none⟩) (by simp; omega) (.int .i64 0)).setCell (p := ⟨Y.heap.size + 1, 1, none⟩) (by simp; omega) (.int .i64 0))
                clear hb7 hB8' bQ7 bS7 hown7 bQ6
                go_wp2_with fail
                go_roundw
                case rel => exact ⟨k + 1, nl + na, c5, G5, true, 0, 0, by omega, by go_num, rfl, rfl, hG5.out, hnl2.out, hown8.out, bQ8.out, bS8.out, hok2.out, (fun h => by cases h), fun _ => hn2.out, hB8.out⟩
                case measure => simp [intOf]; omega
          · obtain rfl := hp1 hall
            have he := Lib.hid (hno.out hall)
            clear hp1 hp2
            go_wp2_with fail
            go_ret2
            exact ⟨fun _ => (by rw [he.out] <;> rfl), (fun h => by rw [he.out] at h; cases h), hB3.out⟩
        · obtain rfl : k = cs.length := by omega
          rw [List.take_length] at hbk hnl hown
          rw [List.take_of_length_le (by simp)] at hlf hlt'
          have hrE : Hid (res = match rateO cs with | none => 3 | some R => if r < R then 6 else 0) := by unfold Hid; rw [← hres.out, prepE, if_pos hbk.out]; cases rateO cs <;> rfl
          cases lg with
          | true =>
            have he : Hid (res = 3) := by unfold Hid; rw [hrE.out, show rateO cs = none from hlt'.out rfl]
            clear hrE hlf hlt'
            go_wp2_with fail
            go_ret2
            exact ⟨fun _ => (by rw [he.out] <;> rfl), (fun h => by rw [he.out] at h; cases h), hB.out⟩
          | false =>
            obtain ⟨s, hfs, hss, rfl, rfl⟩ := hlf.out rfl
            have hrE2 : Hid (res = if r < s then 6 else 0) := by unfold Hid; rw [hrE.out, show rateO cs = some s from hss]
            have u0 := bQ.out.cell 0
            have u1 := bQ.out.cell 1
            have kQ := bQ.out.lt
            have s0 := bS.out.cell 0
            have s1 := bS.out.cell 1
            have kS := bS.out.lt
            have HMx := Lib.hid (HM.out s hfs)
            have hcq : Hid (0 < cmpQ s r ↔ r < s) := Ref.cmpQ_pos
            generalize cmpQ s r = kq at HMx hcq
            clear hrE hlf hlt' hss
            go_wp2_with fail
            (with_reducible refine (HMx.out _).mono ?_); rintro _ w7 ⟨rfl, hb7⟩
            have hB8 := Lib.hid (hB.out.trans (hb7.mono hB.out.size))
            have hown8 := Lib.hid (own_below hown.out hb7)
            clear hb7 u0 u1 s0 s1
            by_cases hk0 : 0 < kq
            · have hkd : decide (0 < kq) = true := decide_eq_true hk0
              have he : Hid (res = 6) := by unfold Hid; rw [hrE2.out, if_pos (hcq.out.1 hk0)]
              go_wp2_with fail
              go_ret2
              exact ⟨fun _ => (by rw [he.out] <;> rfl), (fun h => by rw [he.out] at h; cases h), hB8.out⟩
            · have hkd : decide (0 < kq) = false := decide_eq_false hk0
              have he : Hid (res = 0) := by unfold Hid; rw [hrE2.out, if_neg (fun h => hk0 (hcq.out.2 h))]
              have hownF := hown8.out
              rw [hnl.out] at hownF
              have hnlE := Lib.hid hnl.out
              replace hownF := Lib.hid hownF
              clear hown hown8
              go_wp2_with fail
              go_ret2
              exact ⟨fun h => absurd he.out h, fun _ => ⟨_, rfl, by rw [hnlE.out]; exact hownF.out⟩, hB8.out⟩
end Go.Proofs.YtbncfknjgldcbaaGreat
