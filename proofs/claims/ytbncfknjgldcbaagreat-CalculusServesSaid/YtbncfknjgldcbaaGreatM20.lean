/- Merged texts: CConfP. -/
import Derived.Test.YtbncfknjgldcbaaGreatM18
import Derived.Test.YtbncfknjgldcbaaGreatM19
import Derived.Test.YtbncfknjgldcbaaGreatM14
import Derived.Test.YtbncfknjgldcbaaGreatM2
/- calculus.Conforms of valid arguments. -/
namespace Go.Proofs.YtbncfknjgldcbaaGreat
open Go.RowKit Go.Joins Go.Shelf Go.Sort Num
attribute [local go_sem] Oper.semAt_some

theorem harmL_nn : ∀ (l : List Buck) (least : Int), 0 ≤ least → 0 ≤ harmL least l
  | [], _, h => h
  | x :: l, least, h => by
    rw [harmL]
    split
    · exact Int.le_refl 0
    · split
      · rename_i h1 h2
        have : 0 ≤ (1073741824 - x.b.num * (rho x).den).tdiv (x.r.num * (rho x).num) := Int.tdiv_nonneg (by omega) (by omega)
        exact harmL_nn l _ (by omega)
      · exact harmL_nn l least h
theorem calls_round {n l : Nat} {P : Program} {f : FuncId} {args : Array Value} {w : World} {R : Ending → World → Prop} (h : Calls P f args w R) : CallsIn (Fence.wide.inRound l) n P f args w R :=
  (callsIn_wide (n := n)).2 h
theorem fit_int {z : Int} (h : -1073741824 ≤ z ∧ z ≤ 1073741824) : Fit (z : Rat) := by
  constructor
  · show z.natAbs ≤ 1073741824; omega
  · exact (by decide : (1 : Nat) ≤ 1073741824)
theorem frOk_pair : ∀ {l : List Sn} {last : Int}, frOk last l = true → l.Pairwise (fun x y => x.t ≤ y.t)
  | [], _, _ => List.Pairwise.nil
  | f :: l, last, h => by
    rw [frOk, Bool.and_eq_true] at h
    exact List.pairwise_cons.2 ⟨fun y hy => frOk_first h.2 y hy, frOk_pair h.2⟩
theorem gaps_handsB (b1 b2 : Nat) (A : Option Addr) (cap : Nat) (l : List Sn) (hlen : l.length ≤ 4000) (hok : frOk 0 l = true) (h : Int) (hh0 : 0 ≤ h) (n : Nat) (hn : 4 ≤ n) (w : World) :
    HandsB Fence.wide n Tryz.prog 119 #[.pointer (some ⟨b1, 0, none⟩), .pointer (some ⟨b2, 0, none⟩)] (fun x : Int => #[.int .i64 x]) (GapR b1 b2 A cap l h) (gapsL l h) w := fun lb J D W _ hR hJ hD hY h0 =>
  gapsB_in n hn lb b1 b2 A cap l hlen hok h hh0 J D W hR hJ hD hY h0

set_option maxRecDepth 100000 in
set_option maxHeartbeats 2000000 in
theorem conf_any (A B : Option Addr) (ca cb : Nat) (c : List Buck) (hl1 : 1 ≤ c.length) (hl2 : c.length ≤ 32) (l : List Sn) (hbl : ∀ x ∈ l, x.bd64) (hlen : l.length ≤ 4000) (hok : frOk 0 l = true) (w : World) (hC : isC A ca c w) (hS : isS B l w) :
    CallsIn Fence.wide 9 Tryz.prog 34 #[.slice A c.length ca, .slice B l.length cb] w fun e w' => (∃ r x, e = .returned (.tuple #[.bool r, .int .i64 x]) ∧ ConfP c l r x) ∧ Below w.heap.size w w' := by
  have hro : Fence.wide.round = none := rfl
  have hB0 := ((((Below.refl w.heap.size w).alloc (Nat.le_refl _) (.cells #[.slice A c.length ca] 23)).alloc (by simp) (.cells #[.slice B l.length cb] 61)).alloc (by simp; omega) (.cells #[.bool false] 4)).alloc (by simp; omega) (.cells #[.int .i64 0] 27)
  have HV := valid_ok hl1 hl2 (cl_isC A ca c w _ hC hB0)
  have HF : Hid (∀ W : World, Below w.heap.size w W → Calls Tryz.prog 83 #[.slice B l.length cb] W fun e w' => e = .returned (.bool true) ∧ Below W.heap.size W w') := fun W hW => (frames_any B cb l (fun _ => hbl) W (cl_isS B l w W hS hW)).mono fun _ _ h => by rw [frB_ok hlen hok] at h; exact h
  have HH : Hid (∀ W : World, Below w.heap.size w W → _) := fun W hW => harm_any A ca c (by omega) W (cl_isC A ca c w W hC hW)
  have b4 := (BoxN.new ((w.alloc (.cells #[.slice A c.length ca] 23)).alloc (.cells #[.slice B l.length cb] 61)) 4 #[.bool false]).alloc (.cells #[.int .i64 0] 27)
  have b5 := BoxN.new (((w.alloc (.cells #[.slice A c.length ca] 23)).alloc (.cells #[.slice B l.length cb] 61)).alloc (.cells #[.bool false] 4)) 27 #[.int .i64 0]
  have b3 := ((BoxN.new (w.alloc (.cells #[.slice A c.length ca] 23)) 61 #[.slice B l.length cb]).alloc (.cells #[.bool false] 4)).alloc (.cells #[.int .i64 0] 27)
  have b2 := (((BoxN.new w 23 #[.slice A c.length ca]).alloc (.cells #[.slice B l.length cb] 61)).alloc (.cells #[.bool false] 4)).alloc (.cells #[.int .i64 0] 27)
  rw [World.size_alloc, World.size_alloc] at b4
  rw [World.size_alloc, World.size_alloc, World.size_alloc] at b5
  rw [World.size_alloc] at b3
  obtain ⟨h, hh⟩ : ∃ h, harmL 1073741824 c = h := ⟨_, rfl⟩
  rw [hh] at HH
  have hh0 : 0 ≤ h := by rw [← hh]; exact harmL_nn c _ (by decide)
  have hcne : c ≠ [] := by intro e; rw [e] at hl1; simp at hl1
  have HYes : Hid (GapsOk c l h → ConfP c l (!(c.any fun x => !holdsB x l)) 0) := fun hg => conf_yes hcne hok (by rw [hh]; exact hg)
  have HNo : Hid (∀ x ∈ gapsL l h, (0 ≤ x ∧ x ≤ 1073741824) ∧ (¬ okc c x → ConfP c l false 3)) := fun x hx => by
    obtain ⟨i, k, y, z, hy, hz, rfl, hgt⟩ := gapsL_mem hx
    obtain ⟨p1, p2, -, -⟩ := frOk_mem hok (Int.le_refl 0) y (List.mem_of_getElem? hy)
    obtain ⟨p3, p4, -, -⟩ := frOk_mem hok (Int.le_refl 0) z (List.mem_of_getElem? hz)
    exact ⟨by omega, fun hn => conf_no hh0 hok hy hz hgt hn⟩
  have HAll : Hid ((∀ x ∈ gapsL l h, okc c x) → GapsOk c l h) := fun ha i k x y hx hy hgt => ha _ (gapsL_all (frOk_pair hok) hx hy hgt)
  have HAt : Hid (∀ (x : Int) (W : World), (0 ≤ x ∧ x ≤ 1073741824) → Below w.heap.size w W → Calls Tryz.prog 8 #[.slice A c.length ca, .agg #[.int .i64 x, .int .i64 1]] W fun e w' => e = .returned (ratV (atV c (x : Rat))) ∧ Below W.heap.size W w') := fun x W hx hW => at_ok A ca c (x : Rat) hl1 hl2 (fit_int (by omega)) (Rat.intCast_le_intCast.2 hx.1) W (cl_isC A ca c w W hC hW)
  have HSP : Hid (∀ W : World, Below w.heap.size w W → BoxN W (w.heap.size + 1) 61 #[.slice B l.length cb] → _) := fun W hW hb => spills_any A B ca cb c (by omega) l hlen hok (w.heap.size + 1) W (cl_isC A ca c w W hC hW) hb (cl_isS B l w W hS hW)
  obtain ⟨z, hz⟩ : ∃ z, (c.any fun x => !holdsB x l) = z := ⟨_, rfl⟩
  rw [hz] at HSP HYes
  have HG : Hid (∀ (b1 b2 : Nat) (W : World), HandsB Fence.wide 8 Tryz.prog 119 #[.pointer (some ⟨b1, 0, none⟩), .pointer (some ⟨b2, 0, none⟩)] (fun x : Int => #[.int .i64 x]) (GapR b1 b2 B cb l h) (gapsL l h) W) :=
    fun b1 b2 W => gaps_handsB b1 b2 B cb l hlen hok h hh0 8 (by decide) W
  have HS2 : Hid (∀ W : World, Below w.heap.size w W → isS B l W) := fun W hW => cl_isS B l w W hS hW
  have HGB := Lib.hid (fun W : World => gaps_box B l.length cb h W)
  have c2 := b2.cell 0
  replace HV := Lib.hid HV
  clear hC hS hbl hok hh hl1 hl2
  refine callsIn_of_wp_marks Tryz.func34 rfl trivial ?_ hro
  simp only [Tryz.ntmps34, List.size_toArray, List.length_cons, List.length_nil, Nat.reduceAdd, Nat.reduceSub, Array.replicate_succ, Array.replicate_zero, List.push_toArray, List.append_toArray, List.nil_append, List.cons_append]
  gi_wp2_with fail
  refine ⟨trivial, ?_⟩
  (with_reducible refine (callsIn_wide.2 HV.out).mono ?_); rintro e w1 ⟨rfl, hb1⟩
  have hB1 := hB0.trans (hb1.mono hB0.size)
  have d2 := b2.below hb1 b2.lt
  have d3 := b3.below hb1 b3.lt
  have d4 := b4.below hb1 b4.lt
  have d5 := b5.below hb1 b5.lt
  have HFx := Lib.hid (HF.out w1 hB1)
  clear c2 hb1 b2 b3 b4 b5 hB0 HF HV
  have c3 := d3.cell 0
  gi_wp2_with fail
  refine ⟨trivial, ?_⟩
  (with_reducible refine (callsIn_wide.2 HFx.out).mono ?_); rintro e w2 ⟨rfl, hb2⟩
  have hB2 := hB1.trans (hb2.mono hB1.size)
  have e2 := d2.below hb2 d2.lt
  have e3 := d3.below hb2 d3.lt
  have e4 := d4.below hb2 d4.lt
  have e5 := d5.below hb2 d5.lt
  have c2 := e2.cell 0
  clear c3 d2 d3 d4 d5 hb2 hB1 HFx w1
  have c3 := e3.cell 0
  have k2 := e2.lt
  have k3 := e3.lt
  have hz2 := hB2.size
  gi_wp2_with fail
  refine wpIn_wide.2 ?_
  replace HH : Hid (∀ W : World, Below w2.heap.size w2 W → _) := fun W hW => HH.out W (hB2.trans (hW.mono hz2))
  have E2 := Lib.hid e2
  have E3 := Lib.hid e3
  have E4 := Lib.hid e4
  have E5 := Lib.hid e5
  have HB2 := Lib.hid hB2
  clear e2 e3 e4 e5 hB2
  go_region_with (first
    | (go_at_call 85; (with_reducible refine (HH.out _ (by repeat' (first | (with_reducible exact Below.refl _ _) | (with_reducible refine Below.drew ?_) | (with_reducible refine below_drewN ?_ _)))).mono ?_); rintro e v1 ⟨rfl, hb⟩; obtain ⟨hcp, hfp⟩ := bcell hb; have hzp := hb.size; (try simp only [World.size_drew] at hcp); (try simp only [World.size_drew] at hfp); (try simp only [World.size_drew] at hzp); (try have hk1 : w.heap.size + 1 < v1.heap.size := by omega); have hbq : Below w2.heap.size w2 v1 := (by repeat' (first | (with_reducible exact Below.refl _ _) | (with_reducible refine Below.drew ?_) | (with_reducible refine below_drewN ?_ _) | (with_reducible refine Below.trans ?_ (hb.mono ?_)) | omega | (simp; done) | (simp; omega))))
    | (go_at_call 84; (with_reducible refine (HGB.out _).mono ?_); rintro e w3 ⟨b1, b2, rfl, hx1, hx2, hb3⟩; have hbr : Below w2.heap.size w2 w3 := (by repeat' (first | (with_reducible exact hbq) | (with_reducible refine Below.drew ?_) | (with_reducible refine below_drewN ?_ _) | (with_reducible refine Below.trans ?_ (hb3.mono ?_)) | omega | (simp; done) | (simp; omega)))))
  all_goals
    have hbs := hbr.size
    have q2 := E2.out.below hbr (by omega)
    have q3 := E3.out.below hbr (by omega)
    have q4 := E4.out.below hbr E4.out.lt
    have q5 := E5.out.below hbr E5.out.lt
    have hBr := HB2.out.trans (hbr.mono hz2)
    have hzr := hBr.size
    have hl5 := q5.lt
    have HGx := HG.out b1 b2 w3
    have HR1 := Lib.hid hx1
    have HR2 := Lib.hid hx2
    have hbw := hBr.size
    clear hx1 hx2 hbr hb hb3 hbq hcp hfp HG HGB HH E2 E3 E4 E5 HB2
    gi_wp2_with fail
    refine wpIn_handsB hro (by decide) (gf := 119) (lb := #[.pointer (some ⟨b1, 0, none⟩), .pointer (some ⟨b2, 0, none⟩)]) rfl trivial (enters_of Tryz.func119 (by kernel_rfl) rfl)
      HGx (Below.refl _ _) (fun _ => rfl)
      (fun ps V => Below w3.heap.size w3 V ∧ ∀ g ∈ ps, okc c g)
      (fun V => ConfP c l false 3 ∧ BoxN V (w.heap.size + 1 + 1) 4 #[.bool false] ∧ BoxN V (w.heap.size + 1 + 1 + 1) 27 #[.int .i64 3] ∧ Below w.heap.size w V)
      (fun s V hv => ⟨HR1.out.below hv.1 HR1.out.lt, HR2.out.below hv.1 HR2.out.lt, HS2.out _ (hBr.trans (hv.1.mono hbw))⟩)
      (fun s V C hv hk => ⟨hv.1.trans hk, hv.2⟩)
      (fun V C hv hk => ⟨hv.1, (hk.block _ (by omega)).trans hv.2.1, (hk.block _ (by omega)).trans hv.2.2.1, hv.2.2.2.trans (hk.mono hbw)⟩)
      ⟨Below.refl _ _, by simp⟩
      (fun x a' V => a' = { tmps := #[.slice A c.length ca, .slice B l.length cb, .pointer (some ⟨w.heap.size, 0, none⟩), .pointer (some ⟨w.heap.size + 1, 0, none⟩), .pointer (some ⟨w.heap.size + 1 + 1, 0, none⟩), .pointer (some ⟨w.heap.size + 1 + 1 + 1, 0, none⟩), .int .i64 x, undef, undef, undef, .slice A c.length ca, .bool true, .bool false, .bool false, .slice B l.length cb, .bool true, .bool false, .bool false, .slice B l.length cb, .slice A c.length ca, .int .i64 h, .func (.func 119) #[] #[.pointer (some ⟨b1, 0, none⟩), .pointer (some ⟨b2, 0, none⟩)], .int .i64 x, undef, undef, undef, undef, undef, undef, undef, undef, undef, undef, undef, undef, undef, undef, undef], defers := [] }) (fun _ _ _ _ _ _ h _ _ _ => h)
      ?assign ?body ?done ?stop
    case assign =>
      rintro lr pre x W K hv hzW hK
      have HK := Lib.hid hK
      clear hK
      gi_wp2_with fail
      exact HK.out _ _ (Kb.refl _ _) hv rfl
    case body =>
      rintro lr pre x a' W hzW ⟨hv, hall⟩ rfl hpre
      obtain ⟨hxb, hxn⟩ := HNo.out x (by
        obtain ⟨t, ht⟩ := hpre
        rw [← ht]; simp)
      have hBv := hBr.trans (hv.mono hbw)
      have c2 := (q2.below hv (by omega)).cell 0
      have l2 := (q2.below hv (by omega)).lt
      have r4 := q4.below hv q4.lt
      have r5 := q5.below hv q5.lt
      have HAx := HAt.out x W hxb hBv
      have Hv := Lib.hid hv
      by_cases hok1 : okc c x
      · rw [show atV c (x : Rat) = _ from if_pos hok1] at HAx
        simp only [ratV] at HAx
        generalize (minV c (x : Rat)).num = vn at HAx
        generalize ((minV c (x : Rat)).den : Int) = vd at HAx
        have HAx := Lib.hid HAx
        have hall2 : Hid (∀ g ∈ pre ++ [x], okc c g) := fun g hg => by
          rcases List.mem_append.1 hg with h1 | h1
          · exact hall g h1
          · rw [List.mem_singleton.1 h1]; exact hok1
        clear r4 r5 hxn hpre hall hv q2 q3 q4 q5
        gi_wp2_with fail
        refine ⟨trivial, ?_⟩
        (with_reducible refine (calls_round HAx.out).mono ?_); rintro e v5 ⟨rfl, hb5⟩
        have hb6 := hb5.alloc hb5.size (.cells #[.int .i64 vn, .int .i64 vd] 25)
        have hk6 := Lib.hid (Kb.below (B := w3.heap.size) hb6)
        have hv6 := Lib.hid (Hv.out.trans (hb6.mono (by have := Hv.out.size; omega)))
        clear c2 hb5 hb6
        gi_wp2_with fail
        exact ⟨hk6.out, hv6.out, hall2.out⟩
      · rw [show atV c (x : Rat) = _ from if_neg hok1] at HAx
        simp only [ratV] at HAx
        have HAx := Lib.hid HAx
        have HPx := Lib.hid (hxn hok1)
        clear hxn hpre hall hv q2 q3 q4 q5
        gi_wp2_with fail
        refine ⟨trivial, ?_⟩
        (with_reducible refine (calls_round HAx.out).mono ?_); rintro e v5 ⟨rfl, hb5⟩
        have t4 := r4.below hb5 r4.lt
        have t5 := r5.below hb5 r5.lt
        have c4 := t4.cell 0
        have c5 := t5.cell 0
        have f4 := t4.frozen 0
        have f5 := t5.frozen 0
        have k4 := t4.lt
        have k5 := t5.lt
        have hBd := Lib.hid ((((hBv.trans (hb5.mono hBv.size)).setCell (p := ⟨w.heap.size + 1 + 1, 0, none⟩) (by simp; omega) (.bool false)).setCell (p := ⟨w.heap.size + 1 + 1 + 1, 0, none⟩) (by simp; omega) (.int .i64 3)).alloc (by have := hBv.size; have := hb5.size; simp; omega) (.cells #[.int .i64 0, .int .i64 0] 25))
        have hk6 := Lib.hid ((((Kb.below (B := w3.heap.size) hb5).trans (Kb.set _ ⟨w.heap.size + 1 + 1, 0, none⟩ (.bool false) (by simp; omega))).trans (Kb.set _ ⟨w.heap.size + 1 + 1 + 1, 0, none⟩ (.int .i64 3) (by simp; omega))).trans (Kb.below ((Below.refl _ _).alloc (Nat.le_refl _) (.cells #[.int .i64 0, .int .i64 0] 25))))
        obtain ⟨y4, y5⟩ := res2 (.bool false) (.int .i64 3) t4 t5 (by omega)
        have hY := Lib.hid (And.intro (y4.alloc (.cells #[.int .i64 0, .int .i64 0] 25)) (y5.alloc (.cells #[.int .i64 0, .int .i64 0] 25)))
        clear c2 hb5 r4 r5 t4 t5 y4 y5
        gi_wp2_with fail
        exact ⟨hk6.out, HPx.out, hY.out.1, hY.out.2, hBd.out⟩
    case done =>
      rintro D V hD hzV ⟨hv, hall⟩ hK
      have HP := Lib.hid (HYes.out (HAll.out hall))
      clear hall
      have hzv := hv.size
      have p2 := (q2.below hv (by omega)).cell 0
      have r3 := q3.below hv q3.lt
      have p3 := r3.cell 0
      have l3 := r3.lt
      have r4 := q4.below hv q4.lt
      have r5 := q5.below hv q5.lt
      have hBv := hBr.trans (hv.mono hzr)
      have hDV : D < V.heap.size := (Array.getElem?_eq_some_iff.1 hK).1
      have HSx := Lib.hid (HSP.out V hBv r3)
      clear q2 q3 q4 q5 hv
      gi_wp2_with fail
      refine ⟨trivial, ?_⟩
      (with_reducible refine (callsIn_wide.2 HSx.out).mono ?_); rintro e v5 ⟨rfl, hb5⟩
      have t4 := r4.below hb5 r4.lt
      have t5 := r5.below hb5 r5.lt
      have hB5 := hBv.trans (hb5.mono (by omega))
      have hK5 : v5.heap[D]? = some (.deferred (some [])) := (hb5.block D hDV).trans hK
      have c4 := t4.cell 0
      have c5 := t5.cell 0
      have f4 := t4.frozen 0
      have f5 := t5.frozen 0
      have k4 := t4.lt
      have k5 := t5.lt
      have hKs : ((v5.setCell ⟨w.heap.size + 1 + 1, 0, none⟩ (.bool !z)).setCell ⟨w.heap.size + 1 + 1 + 1, 0, none⟩ (.int .i64 0)).heap[D]? = some (.deferred (some [])) :=
        (Below.heap_setCell _ _ _ D (by simp; omega)).trans ((Below.heap_setCell _ _ _ D (by simp; omega)).trans hK5)
      obtain ⟨y4, y5⟩ := res2 (.bool !z) (.int .i64 0) t4 t5 (by omega)
      have s4 := Lib.hid ((cell_same (World.putObj_heap_other (w := (v5.setCell ⟨w.heap.size + 1 + 1, 0, none⟩ (.bool !z)).setCell ⟨w.heap.size + 1 + 1 + 1, 0, none⟩ (.int .i64 0)) (o := .deferred none) (show w.heap.size + 1 + 1 ≠ D by omega)) 0).trans (y4.cell 0))
      have s5 := Lib.hid ((cell_same (World.putObj_heap_other (w := (v5.setCell ⟨w.heap.size + 1 + 1, 0, none⟩ (.bool !z)).setCell ⟨w.heap.size + 1 + 1 + 1, 0, none⟩ (.int .i64 0)) (o := .deferred none) (show w.heap.size + 1 + 1 + 1 ≠ D by omega)) 0).trans (y5.cell 0))
      have HKs := Lib.hid hKs
      have HB5 := Lib.hid hB5
      clear hKs y4 y5 hK5 hb5 t4 t5 r3 r4 r5 p2 p3 hB5
      gi_wp2
      refine ⟨by simp, .inl ⟨_, _, rfl, run_takeDeferred HKs.out, ?_⟩⟩
      refine ⟨.tuple #[.bool !z, .int .i64 0], by simp [results, Tryz.f34, go_sem, s4.out, s5.out], ⟨_, _, rfl, HP.out⟩, ?_⟩
      exact ((HB5.out.setCell (p := ⟨w.heap.size + 1 + 1, 0, none⟩) (by simp; omega) _).setCell (p := ⟨w.heap.size + 1 + 1 + 1, 0, none⟩) (by simp; omega) _).trans (belowK_b (w := w) (Nat.le_refl _) _ D _ _ (by omega) HKs.out rfl rfl)
    case stop =>
      rintro D V hD hzV ⟨hP, r4, r5, hB5⟩ hK
      have s4 := Lib.hid ((cell_same (World.putObj_heap_other (w := V) (o := .deferred none) (show w.heap.size + 1 + 1 ≠ D by omega)) 0).trans (r4.cell 0))
      have s5 := Lib.hid ((cell_same (World.putObj_heap_other (w := V) (o := .deferred none) (show w.heap.size + 1 + 1 + 1 ≠ D by omega)) 0).trans (r5.cell 0))
      have HKs := Lib.hid hK
      have HB5 := Lib.hid hB5
      have HP := Lib.hid hP
      clear hK hB5 hP r4 r5 q2 q3 q4 q5
      gi_wp2_with fail
      refine ⟨by simp, .inl ⟨_, _, rfl, run_takeDeferred HKs.out, ?_⟩⟩
      refine ⟨.tuple #[.bool false, .int .i64 3], by simp [results, Tryz.f34, go_sem, s4.out, s5.out], ⟨_, _, rfl, HP.out⟩, ?_⟩
      exact HB5.out.trans (belowK_b (w := w) (Nat.le_refl _) _ D _ _ (by omega) HKs.out rfl rfl)
end Go.Proofs.YtbncfknjgldcbaaGreat
