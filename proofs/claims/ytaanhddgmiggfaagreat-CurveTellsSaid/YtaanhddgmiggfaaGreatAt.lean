/- curve.At. -/
import Derived.Test.YtaanhddgmiggfaaGreatValid
namespace Go.Proofs.YtaanhddgmiggfaaGreat
open Go.RowKit Go.Joins Go.Shelf Go.Sort Num

theorem BoxN.set1 {W : World} {B : Nat} {t : TypeId} {cs : Array Value} (i : Nat) (u : Value) (h : BoxN W B t cs) : BoxN (W.setCell ⟨B, i, none⟩ u) B t (cs.setIfInBounds i u) := by
  unfold BoxN at h ⊢
  simp [World.setCell, Array.getElem?_modify, h]
theorem BoxN.set2 {W : World} {B : Nat} {t : TypeId} {x y : Value} (u v : Value) (h : BoxN W B t #[x, y]) : BoxN ((W.setCell ⟨B, 0, none⟩ u).setCell ⟨B, 1, none⟩ v) B t #[u, v] := (h.set1 0 u).set1 1 v
theorem BoxN.frozen {W : World} {B : Nat} {t : TypeId} {cs : Array Value} (h : BoxN W B t cs) (i : Nat) : W.frozen? ⟨B, i, none⟩ = false := by
  unfold BoxN at h
  simp [World.frozen?, h]

/-- The value of a bucket, and when it can be computed. -/
def valQ (x : Buck) (t : Rat) : Rat := x.b + x.r * t
def okv (x : Buck) (t : Rat) : Prop := Fit (x.r * t) ∧ Fit (valQ x t)
instance (x : Buck) (t : Rat) : Decidable (okv x t) := inferInstanceAs (Decidable (_ ∧ _))
theorem valV_ok {x : Buck} {t : Rat} (h : okv x t) : valV x.b x.r t = ((valQ x t).num, ((valQ x t).den : Int), 0) := by
  unfold valV; rw [if_pos h.1]; exact ofR_yes h.2
theorem valV_no {x : Buck} {t : Rat} (h : ¬ okv x t) : valV x.b x.r t = (0, 0, 3) := by
  unfold valV
  split
  · rename_i h1; exact ofR_no fun h2 => h ⟨h1, h2⟩
  · rfl
def minStep (t : Rat) (m : Rat) (y : Buck) : Rat := if valQ y t < m then valQ y t else m
/-- The least value. -/
def minV (c : List Buck) (t : Rat) : Rat := match c with | [] => 0 | x :: l => l.foldl (minStep t) (valQ x t)
theorem minV_one (x : Buck) (t : Rat) : minV [x] t = valQ x t := rfl
theorem minV_snoc (c : List Buck) (x : Buck) (t : Rat) (h : c ≠ []) : minV (c ++ [x]) t = minStep t (minV c t) x := by
  cases c with
  | nil => exact absurd rfl h
  | cons y c => simp [minV, List.foldl_append]
theorem minV_fit {c : List Buck} {t : Rat} (h : ∀ x ∈ c, okv x t) (hc : c ≠ []) : Fit (minV c t) := by
  cases c with
  | nil => exact absurd rfl hc
  | cons x l =>
    unfold minV
    have : ∀ (l : List Buck) (m : Rat), Fit m → (∀ x ∈ l, okv x t) → Fit (l.foldl (minStep t) m) := by
      intro l
      induction l with
      | nil => intro m hm _; exact hm
      | cons y l ih =>
        intro m hm hl
        rw [List.foldl_cons]
        refine ih _ ?_ fun z hz => hl z (List.mem_cons_of_mem _ hz)
        unfold minStep
        split
        · exact (hl y List.mem_cons_self).2
        · exact hm
    exact this l _ (h x List.mem_cons_self).2 fun z hz => h z (List.mem_cons_of_mem _ hz)
def atV (c : List Buck) (t : Rat) : Int × Int × Int := if ∀ x ∈ c, okv x t then ((minV c t).num, ((minV c t).den : Int), 0) else (0, 0, 3)

section
variable (A : Option Addr) (cap : Nat)
set_option maxHeartbeats 1000000 in
theorem at_bad (c : List Bk) (tn td : Int) (hlen : c.length ≤ 1048576) (hbd : ∀ x ∈ c, x.bd64) (h1 : I64 tn) (h2 : I64 td) (w : World) (hI : SlR w.heap.size w (.slice A c.length cap) c) (hbad : (valC c && amtB tn td) = false) :
    Calls Tryz.prog 12 #[.slice A c.length cap, .agg #[.int .i64 tn, .int .i64 td]] w fun e w' => e = .returned (ratV (0, 0, 2)) ∧ Below w.heap.size w w' := by
  have HV : Hid (∀ W : World, Below w.heap.size w W → _) := fun W hb => valid_c A cap c hlen hbd W ((hI.below hb (Nat.le_refl _)).more hb.size)
  have HT : Hid (∀ W : World, _) := fun W => amount_any tn td W h1.1 h1.2 h2.1 h2.2
  clear hI hbd
  simp only [ratV]
  generalize valC c = vc at hbad HV
  generalize amtB tn td = va at hbad HT
  cases vc
  · go_enter Tryz.func12, Tryz.ntmps12
    go_wp2_with fail
    refine (HV.out _ (((Below.refl _ w).alloc (Nat.le_refl _) _).alloc (by simp) _)).mono ?_; rintro e w1 ⟨rfl, hb1⟩
    obtain ⟨hc, hf⟩ := bcell hb1
    have hz := hb1.size
    simp only [World.size_alloc] at hc hf hz
    have hB : Below w.heap.size w w1 := (((Below.refl _ w).alloc (Nat.le_refl _) _).alloc (by simp) _).trans (hb1.mono (by simp; omega))
    go_wp2
    refine bodyPost_ret (v := ratV (0, 0, 2)) (by simp [results, Tryz.results12, go_sem, ratV, hc]) rfl ⟨rfl, ?_⟩
    (have hBs := hB.size; (try simp only [World.size_alloc] at hBs); repeat' (first | (with_reducible exact hB) | (with_reducible exact hBs) | (with_reducible refine Below.drew ?_) | (with_reducible refine below_drewN ?_ _) | (with_reducible refine Below.setCell ?_ ?_ _) | (with_reducible refine Below.alloc ?_ ?_ _) | go_size | omega | (simp; omega)))
  · obtain rfl : va = false := by simpa using hbad
    go_enter Tryz.func12, Tryz.ntmps12
    go_wp2_with fail
    refine (HV.out _ (((Below.refl _ w).alloc (Nat.le_refl _) _).alloc (by simp) _)).mono ?_; rintro e w1 ⟨rfl, hb1⟩
    obtain ⟨hc, hf⟩ := bcell hb1
    have hz := hb1.size
    simp only [World.size_alloc] at hc hf hz
    go_wp2_with fail
    refine (HT.out _).mono ?_; rintro e w2 ⟨rfl, hb2⟩
    replace hb2 := bnext hb1 hb2.b
    clear hc hf hz hb1
    obtain ⟨hc, hf⟩ := bcell hb2
    have hz := hb2.size
    simp only [World.size_alloc] at hc hf hz
    have hB : Below w.heap.size w w2 := (((Below.refl _ w).alloc (Nat.le_refl _) _).alloc (by simp) _).trans (hb2.mono (by simp; omega))
    go_wp2
    refine bodyPost_ret (v := ratV (0, 0, 2)) (by simp [results, Tryz.results12, go_sem, ratV, hc]) rfl ⟨rfl, ?_⟩
    (have hBs := hB.size; (try simp only [World.size_alloc] at hBs); repeat' (first | (with_reducible exact hB) | (with_reducible exact hBs) | (with_reducible refine Below.drew ?_) | (with_reducible refine below_drewN ?_ _) | (with_reducible refine Below.setCell ?_ ?_ _) | (with_reducible refine Below.alloc ?_ ?_ _) | go_size | omega | (simp; omega)))

set_option maxRecDepth 100000 in
set_option maxHeartbeats 4000000 in
theorem at_ok (c : List Buck) (t : Rat) (hl1 : 1 ≤ c.length) (hl2 : c.length ≤ 32) (ht : Fit t) (ht0 : 0 ≤ t) (w : World) (hI : Sl w.heap.size w (.slice A c.length cap) c) :
    Calls Tryz.prog 12 #[.slice A c.length cap, .agg #[.int .i64 t.num, .int .i64 t.den]] w fun e w' => e = .returned (ratV (atV c t)) ∧ Below w.heap.size w w' := by
  have hval : valC (c.map Buck.raw) = true := by
    unfold valC
    rw [List.length_map, decide_eq_true hl1, decide_eq_true hl2, Bool.true_and, Bool.true_and, List.all_eq_true]
    intro x hx
    obtain ⟨y, -, rfl⟩ := List.mem_map.1 hx
    exact raw_ok y
  have htb := fit_bd ht
  have HV : Hid (∀ W : World, Below w.heap.size w W → Calls Tryz.prog 16 #[.slice A c.length cap] W fun e w' => e = .returned (.bool true) ∧ Below W.heap.size W w') := fun W hb => by
    have := valid_c A cap (c.map Buck.raw) (by simp; omega) (fun x hx => by obtain ⟨y, -, rfl⟩ := List.mem_map.1 hx; exact raw_bd y) W (by simpa using slR_iff.2 ((hI.below hb (Nat.le_refl _)).more hb.size))
    rw [hval] at this
    simpa using this
  have HT : Hid (∀ W : World, Calls Tryz.prog 57 #[.agg #[.int .i64 t.num, .int .i64 t.den]] W fun e w' => e = .returned (.bool true) ∧ Lays W w') := fun W => by
    have := amount_any t.num t.den W (by omega) (by omega) (by omega) (by omega)
    rwa [show amtB t.num t.den = true by unfold amtB; rw [fit_vld ht]; simp [Rat.num_nonneg.2 ht0]] at this
  have HX : Hid (∀ (x : Buck) (W : World), _) := fun x W => value_r x.hb x.hr ht W
  obtain ⟨A', cap', e, hrow⟩ := hI
  simp only [Value.slice.injEq, true_and] at e
  obtain ⟨rfl, rfl⟩ := e
  obtain ⟨b, off, rfl, hb, hr⟩ := hrow (by intro h; subst h; simp at hl1)
  clear hrow hval ht ht0 htb
  generalize htn : t.num = tn at HT HX
  generalize htd : (t.den : Int) = td at HT HX
  clear htn htd
  go_enter Tryz.func12, Tryz.ntmps12
  go_wp2_with fail
  refine (HV.out _ (((Below.refl _ w).alloc (Nat.le_refl _) _).alloc (by simp) _)).mono ?_; rintro e w1 ⟨rfl, hb1⟩
  obtain ⟨hc, hf⟩ := bcell hb1
  have hz := hb1.size
  simp only [World.size_alloc] at hc hf hz
  go_wp2_with fail
  refine (HT.out _).mono ?_; rintro e w2 ⟨rfl, hb2⟩
  replace hb2 := bnext hb1 hb2.b
  clear hc hf hz hb1
  have bT : BoxN w2 w.heap.size 25 #[.int .i64 tn, .int .i64 td] := ((BoxN.new w _ _).alloc _).below hb2 (by simp; omega)
  have bR : BoxN w2 (w.heap.size + 1) 25 #[.int .i64 0, .int .i64 0] := by
    have := (BoxN.new (w.alloc (.cells #[.int .i64 tn, .int .i64 td] 25)) 25 #[.int .i64 0, .int .i64 0]).below hb2 (by simp)
    simpa using this
  have hB2 : Below w.heap.size w w2 := (((Below.refl _ w).alloc (Nat.le_refl _) _).alloc (by simp) _).trans (hb2.mono (by simp; omega))
  clear hb2 HV HT
  go_wp2_with fail
  go_loopw [22] (fun i wr => ∃ (k : Nat) (mn md : Int), k ≤ c.length ∧ i = .int .i64 k ∧ (∀ x ∈ c.take k, okv x t) ∧ (k = 0 ∨ mn = (minV (c.take k) t).num ∧ md = (minV (c.take k) t).den) ∧ BoxN wr w2.heap.size 25 #[.int .i64 mn, .int .i64 md] ∧ Below w2.heap.size w2 wr)
    (fun i _ => c.length - (intOf i).toNat)
  case atStart => exact ⟨0, 0, 0, Nat.zero_le _, rfl, by simp, .inl rfl, BoxN.new _ _ _, (Below.refl _ _).alloc (Nat.le_refl _) _⟩
  case round =>
    obtain ⟨k, mn, md, hk, rfl, hall, hm, bM, hBr⟩ := hrel
    by_cases hlt : k < c.length
    · have hx : c[k]? = some c[k] := List.getElem?_eq_getElem hlt
      obtain ⟨x, hxe⟩ : ∃ x, c[k] = x := ⟨_, rfl⟩
      rw [hxe] at hx
      have hts := take_succ' hx
      have hmem : x ∈ c := List.mem_of_getElem? hx
      obtain ⟨c0, c1, c2, c3⟩ := (hr.below hB2 hb).below hBr (Nat.lt_of_lt_of_le hb hB2.size) k x hx
      have hz2 : w.heap.size + 1 < w2.heap.size := bR.lt
      have hwz := hBr.size
      have bT1 := bT.below hBr (by omega)
      have bR1 := bR.below hBr (by omega)
      have t0 : wr.cell? ⟨w.heap.size, 0, none⟩ = some (.int .i64 tn) := bT1.cell 0
      have t1 : wr.cell? ⟨w.heap.size, 1, none⟩ = some (.int .i64 td) := bT1.cell 1
      have kT : w.heap.size < wr.heap.size := by omega
      have HXx := HX.out x
      clear HX hx hxe
      by_cases hok : okv x t
      · have hall2 : Hid (∀ y ∈ c.take (k + 1), okv y t) := by
          intro y hy
          rw [hts, List.mem_append] at hy
          rcases hy with hy | hy
          · exact hall y hy
          · simp at hy; subst hy; exact hok
        have hfv : Fit (valQ x t) := hok.2
        rw [valV_ok hok] at HXx
        have HXx := Lib.hid HXx
        simp only [ratV] at HXx
        by_cases hk0 : k = 0
        · subst hk0
          have hmin : Hid (minV (c.take (0 + 1)) t = valQ x t) := by unfold Hid; rw [hts]; simp [minV]
          simp only [Nat.zero_mul, Nat.add_zero] at c0 c1 c2 c3
          clear hts hall hm
          obtain ⟨vn, hvn⟩ : ∃ vn, (valQ x t).num = vn := ⟨_, rfl⟩
          obtain ⟨vd, hvd⟩ : ∃ vd : Int, ((valQ x t).den : Int) = vd := ⟨_, rfl⟩
          rw [hvn, hvd] at HXx
          have Hvn := Lib.hid hvn
          have Hvd := Lib.hid hvd
          clear hvn hvd
          go_wp2_with fail
          refine (HXx.out _).mono ?_; rintro e w3 ⟨rfl, hb3⟩
          have bM3 := (bM.alloc (.cells #[.int .i64 x.b.num, .int .i64 x.b.den, .int .i64 x.r.num, .int .i64 x.r.den] 80)).below hb3 (by simp; omega)
          have hB3 := (below_allocs1 hBr hwz hb3)
          have f0 := bM3.frozen 0
          have f1 := bM3.frozen 1
          have m0 : w3.cell? ⟨w2.heap.size, 0, none⟩ = some (.int .i64 mn) := bM3.cell 0
          have m1 : w3.cell? ⟨w2.heap.size, 1, none⟩ = some (.int .i64 md) := bM3.cell 1
          have kM : w2.heap.size < w3.heap.size := bM3.lt
          clear hb3
          go_wp2
          go_roundw
          case rel => exact ⟨1, vn, vd, hl1, by go_num, hall2.out, .inr ⟨by rw [hmin.out, Hvn.out], by rw [hmin.out, Hvd.out]⟩, (bM3.set2 _ _).alloc _, ((hB3.setCell (p := ⟨w2.heap.size, 0, none⟩) (Nat.le_refl _) _).setCell (p := ⟨w2.heap.size, 1, none⟩) (Nat.le_refl _) _).alloc (by have := hB3.size; simp [World.setCell]; omega) _⟩
          case measure => simp [intOf]; omega
        · have hkm : c.take k ≠ [] := by intro h; rw [List.take_eq_nil_iff] at h; rcases h with h | h; exact hk0 h; subst h; simp at hlt
          have hmin : Hid (minV (c.take (k + 1)) t = minStep t (minV (c.take k) t) x) := by unfold Hid; rw [hts, minV_snoc _ _ _ hkm]
          have hfm := minV_fit hall hkm
          have HC : ∀ W : World, _ := fun W => cmp_r hfv hfm W
          have hcq := @cmpQ_neg (valQ x t) (minV (c.take k) t)
          obtain ⟨cq, hcqe⟩ : ∃ cq, cmpQ (valQ x t) (minV (c.take k) t) = cq := ⟨_, rfl⟩
          rw [hcqe] at HC hcq
          have hm' : mn = (minV (c.take k) t).num ∧ md = (minV (c.take k) t).den := by
            rcases hm with h | h
            · exact absurd h hk0
            · exact h
          rw [← hm'.1, ← hm'.2] at HC
          have hk0b : ((k : Int) == 0) = false := by simp [hk0]
          obtain ⟨vn, hvn⟩ : ∃ vn, (valQ x t).num = vn := ⟨_, rfl⟩
          obtain ⟨vd, hvd⟩ : ∃ vd : Int, ((valQ x t).den : Int) = vd := ⟨_, rfl⟩
          rw [hvn, hvd] at HXx HC
          have HC := Lib.hid HC
          have Hvn := Lib.hid hvn
          have Hvd := Lib.hid hvd
          have Hm := Lib.hid hm'
          have hk1 : k + 1 ≤ c.length := hlt
          have Hcq : Hid (cq < 0 ↔ valQ x t < minV (c.take k) t) := hcq
          clear hvn hvd hm hm' hts hall hcq hcqe hkm hfm hk0
          go_wp2_with fail
          refine (HXx.out _).mono ?_; rintro e w3 ⟨rfl, hb3⟩
          have bM3 := ((bM.alloc (.cells #[.int .i64 x.b.num, .int .i64 x.b.den, .int .i64 x.r.num, .int .i64 x.r.den] 80)).below hb3 (by simp; omega)).alloc (.cells #[.int .i64 vn, .int .i64 vd] 25)
          have hB3 := (below_allocs1 hBr hwz hb3)
          have hB4 := hB3.alloc hB3.size (.cells #[.int .i64 vn, .int .i64 vd] 25)
          have m0 : (w3.alloc (.cells #[.int .i64 vn, .int .i64 vd] 25)).cell? ⟨w2.heap.size, 0, none⟩ = some (.int .i64 mn) := bM3.cell 0
          have m1 : (w3.alloc (.cells #[.int .i64 vn, .int .i64 vd] 25)).cell? ⟨w2.heap.size, 1, none⟩ = some (.int .i64 md) := bM3.cell 1
          have bV := BoxN.new w3 25 #[.int .i64 vn, .int .i64 vd]
          have kM : w2.heap.size < w3.heap.size := by have h1 := hb3.size; have h2 := bM.lt; simp at h1; omega
          clear hb3
          go_wp2_with fail
          refine (HC.out _).mono ?_; rintro e w5 ⟨rfl, hb5⟩
          have bM5 := bM3.below hb5.b bM3.lt
          have bV5 := bV.below hb5.b bV.lt
          have hB5 : Below w2.heap.size w2 w5 := hB4.trans (hb5.b.mono hB4.size)
          have v0 : w5.cell? ⟨w3.heap.size, 0, none⟩ = some (.int .i64 vn) := bV5.cell 0
          have v1 : w5.cell? ⟨w3.heap.size, 1, none⟩ = some (.int .i64 vd) := bV5.cell 1
          have n0 : w5.cell? ⟨w2.heap.size, 0, none⟩ = some (.int .i64 mn) := bM5.cell 0
          have n1 : w5.cell? ⟨w2.heap.size, 1, none⟩ = some (.int .i64 md) := bM5.cell 1
          have f0 := bM5.frozen 0
          have f1 := bM5.frozen 1
          clear m0 m1 hb5
          by_cases hq : cq < 0
          · have hlq : Hid (valQ x t < minV (c.take k) t) := Hcq.out.1 hq
            go_wp2
            go_roundw
            case rel => exact ⟨k + 1, vn, vd, hk1, by go_num, hall2.out, .inr ⟨by rw [hmin.out, minStep, if_pos hlq.out, Hvn.out], by rw [hmin.out, minStep, if_pos hlq.out, Hvd.out]⟩, bM5.set2 _ _, (hB5.setCell (p := ⟨w2.heap.size, 0, none⟩) (Nat.le_refl _) _).setCell (p := ⟨w2.heap.size, 1, none⟩) (Nat.le_refl _) _⟩
            case measure => simp [intOf]; omega
          · have hlq : Hid (¬ valQ x t < minV (c.take k) t) := fun h => hq (Hcq.out.2 h)
            go_wp2
            go_roundw
            case rel => exact ⟨k + 1, mn, md, hk1, by go_num, hall2.out, .inr ⟨by rw [hmin.out, minStep, if_neg hlq.out]; exact Hm.out.1, by rw [hmin.out, minStep, if_neg hlq.out]; exact Hm.out.2⟩, bM5, hB5⟩
            case measure => simp [intOf]; omega
      · have hno : Hid (atV c t = (0, 0, 3)) := if_neg fun h => hok (h x hmem)
        rw [valV_no hok] at HXx
        have HXx := Lib.hid HXx
        simp only [ratV] at HXx
        clear hts hall hm
        go_wp2_with fail
        refine (HXx.out _).mono ?_; rintro e w3 ⟨rfl, hb3⟩
        have bR3 := (bR1.alloc (.cells #[.int .i64 x.b.num, .int .i64 x.b.den, .int .i64 x.r.num, .int .i64 x.r.den] 80)).below hb3 (by simp; omega)
        have hB3 := below_allocs1 hBr hwz hb3
        have r0 : w3.cell? ⟨w.heap.size + 1, 0, none⟩ = some (.int .i64 0) := bR3.cell 0
        have r1 : w3.cell? ⟨w.heap.size + 1, 1, none⟩ = some (.int .i64 0) := bR3.cell 1
        have f0 := bR3.frozen 0
        have f1 := bR3.frozen 1
        have kR : w.heap.size + 1 < w3.heap.size := bR3.lt
        have hB : Below w.heap.size w w3 := hB2.trans (hB3.mono hB2.size)
        clear hb3
        go_wp2
        refine bodyPost_ret (v := ratV (0, 0, 3)) (by simp [results, Tryz.results12, go_sem, ratV, r0, r1, kR]) rfl ⟨by rw [hno.out], ?_⟩
        (have hBs := hB.size; (try simp only [World.size_alloc] at hBs); repeat' (first | (with_reducible exact hB) | (with_reducible exact hBs) | (with_reducible refine Below.drew ?_) | (with_reducible refine below_drewN ?_ _) | (with_reducible refine Below.setCell ?_ ?_ _) | (with_reducible refine Below.alloc ?_ ?_ _) | go_size | omega | (simp; omega)))
    · obtain rfl : k = c.length := by omega
      rw [List.take_length] at hall hm
      have hm' : mn = (minV c t).num ∧ md = (minV c t).den := by
        rcases hm with h | h
        · omega
        · exact h
      have hz2 : w.heap.size + 1 < w2.heap.size := bR.lt
      have hres : Hid (atV c t = (mn, md, 0)) := by unfold Hid atV; rw [if_pos hall, hm'.1, hm'.2]
      have m0 : wr.cell? ⟨w2.heap.size, 0, none⟩ = some (.int .i64 mn) := bM.cell 0
      have m1 : wr.cell? ⟨w2.heap.size, 1, none⟩ = some (.int .i64 md) := bM.cell 1
      have bR1 := bR.below hBr (by omega)
      have r0 : wr.cell? ⟨w.heap.size + 1, 0, none⟩ = some (.int .i64 0) := bR1.cell 0
      have r1 : wr.cell? ⟨w.heap.size + 1, 1, none⟩ = some (.int .i64 0) := bR1.cell 1
      have f0 := bR1.frozen 0
      have f1 := bR1.frozen 1
      have hB : Below w.heap.size w wr := hB2.trans (hBr.mono hB2.size)
      clear hm hm' hall
      go_wp2_with fail
      refine bodyPost_ret (v := ratV (mn, md, 0)) (by simp [results, Tryz.results12, go_sem, ratV, r0, r1]) rfl ⟨by rw [hres.out], ?_⟩
      (have hBs := hB.size; (try simp only [World.size_alloc] at hBs); repeat' (first | (with_reducible exact hB) | (with_reducible exact hBs) | (with_reducible refine Below.drew ?_) | (with_reducible refine below_drewN ?_ _) | (with_reducible refine Below.setCell ?_ ?_ _) | (with_reducible refine Below.alloc ?_ ?_ _) | go_size | omega | (simp; omega)))
end
end Go.Proofs.YtaanhddgmiggfaaGreat
