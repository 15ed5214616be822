/- CurveNorm returns true. -/
import Derived.Test.YthkgmgochgjpoaaSg
import Derived.Test.YthkgmgochgjpoaaAwake
import Derived.BigGuardPart
import Derived.IntWalk
namespace Go.Proofs.Ythkgmgochgjpoaa.Norm2
open Go.RowKit Go.Joins Go.Shelf Go.Sort Num

/-- Block b holds the bucket x. -/
def isB (b : Nat) (x : Buck) : World → Prop := fun W => b < W.heap.size ∧ (W.cell? ⟨b, 0, none⟩ = some (.int .i64 x.b.num) ∧ W.cell? ⟨b, 1, none⟩ = some (.int .i64 x.b.den) ∧ W.cell? ⟨b, 2, none⟩ = some (.int .i64 x.r.num) ∧ W.cell? ⟨b, 3, none⟩ = some (.int .i64 x.r.den))
theorem cl_isB (b : Nat) (x : Buck) : Cl (isB b x) := fun _ _ h hb => by
  obtain ⟨hl, h0, h1, h2, h3⟩ := h
  exact ⟨Nat.lt_of_lt_of_le hl hb.size, (hb.cell (p := ⟨b, 0, none⟩) hl).trans h0, (hb.cell (p := ⟨b, 1, none⟩) hl).trans h1, (hb.cell (p := ⟨b, 2, none⟩) hl).trans h2, (hb.cell (p := ⟨b, 3, none⟩) hl).trans h3⟩
theorem isB.new (W : World) (x : Buck) : isB W.heap.size x (W.alloc (.cells #[.int .i64 x.b.num, .int .i64 x.b.den, .int .i64 x.r.num, .int .i64 x.r.den] 45)) := by
  have h := BoxN.new W 45 #[.int .i64 x.b.num, .int .i64 x.b.den, .int .i64 x.r.num, .int .i64 x.r.den]
  exact ⟨h.lt, h.cell 0, h.cell 1, h.cell 2, h.cell 3⟩
theorem eqlB_run {x y : Buck} (W : World) : Sem.run Try.prog (binOp .eql 45 (.agg #[.int .i64 x.b.num, .int .i64 x.b.den, .int .i64 x.r.num, .int .i64 x.r.den]) (.agg #[.int .i64 y.b.num, .int .i64 y.b.den, .int .i64 y.r.num, .int .i64 y.r.den])) W = .ok (.bool (decide (x = y))) W := by
  have hn : (x = y) ↔ (x.b.num = y.b.num ∧ (x.b.den : Int) = y.b.den ∧ x.r.num = y.r.num ∧ (x.r.den : Int) = y.r.den) := ⟨fun h => by rw [h]; exact ⟨rfl, rfl, rfl, rfl⟩, fun ⟨h1, h2, h3, h4⟩ => Buck.ext' (Rat.ext h1 (by omega)) (Rat.ext h3 (by omega))⟩
  simp only [hn]
  generalize x.b.num = a1
  generalize (x.b.den : Int) = a2
  generalize x.r.num = a3
  generalize (x.r.den : Int) = a4
  generalize y.b.num = b1
  generalize (y.b.den : Int) = b2
  generalize y.r.num = b3
  generalize (y.r.den : Int) = b4
  go_simp
  repeat' split
  all_goals (first | rfl | omega | (simp; omega) | (simp_all))

theorem _root_.Go.Proofs.Ythkgmgochgjpoaa.Kept.tl {w W : World} {P : World → Prop} {l : List (World → Prop)} (k : Kept w (P :: l) W) : Kept w l W := ⟨k.b, fun Q hQ => k.h Q (List.mem_cons_of_mem _ hQ)⟩
/-- Is x covered by one of l? -/
def cov (l : List Buck) (x : Buck) : Bool := l.any fun y => decide (cmpQ y.b x.b ≤ 0) && decide (cmpQ y.r x.r ≤ 0)
theorem cov_snoc (l : List Buck) (y x : Buck) : cov (l ++ [y]) x = (cov l x || (decide (cmpQ y.b x.b ≤ 0) && decide (cmpQ y.r x.r ≤ 0))) := by simp [cov]
theorem cov_nf {N c : List Buck} (h : Nf N c) {x : Buck} (hx : x ∈ c) : cov N x = true := by
  obtain ⟨y, hy, hle⟩ := h.c x hx
  unfold cov
  rw [List.any_eq_true]
  exact ⟨y, hy, by rw [Bool.and_eq_true, decide_eq_true_iff, decide_eq_true_iff]; exact ⟨cmpQ_le.2 hle.1, cmpQ_le.2 hle.2⟩⟩

set_option maxRecDepth 100000 in
set_option maxHeartbeats 8000000 in
theorem walk (A : Option Addr) (cap : Nat) (zs : List Int) (w : World) (hz : Nums w A zs) :
    Calls Try.prog 5 #[.slice A zs.length cap] w fun e w' => e = .returned (.bool true) ∧ Below w.heap.size w w' := by
  have HS := small_yes A cap zs w w hz (Below.refl _ _)
  have HW : Hid (∀ W : World, _) := fun W => Aw.walk W
  have hca := small_ne zs
  have ha1 := (small_len zs).1
  have ha4 := (small_len zs).2
  clear hz
  generalize small zs = c at HS hca ha1 ha4
  have ha2 : c.length ≤ 32 := by omega
  have hnf := Lib.hid (normL_nf c)
  have hN := normL_ne hca
  have hNl : (normL c).length ≤ 4 := Nat.le_trans (normL_len c) ha4
  have hN1 : 1 ≤ (normL c).length := List.length_pos_iff.2 hN
  have HN1 : Hid (∀ (A : Option Addr) (ca : Nat) (W : World), isC A ca c W → _) := fun A ca W hi => norm_yes _ hi ha1 ha2 rfl rfl _ rfl
  have HN2 : Hid (∀ (A : Option Addr) (ca : Nat) (W : World), isC A ca (normL c) W → _) := fun A ca W hi => norm_yes _ hi hN1 (by omega) (normL_idem c) rfl _ rfl
  generalize normL c = N at HN1 HN2 hnf hN hNl hN1
  have HC : Hid (∀ (x y : Buck) (W : World), _) := fun x y W => (cmp_r x.hb y.hb W).mono (R' := fun e w' => e = .returned (.int .i64 (cmpQ x.b y.b)) ∧ Below W.heap.size W w') fun _ _ ⟨h, k⟩ => ⟨h, k.b⟩
  have HD : Hid (∀ (x y : Buck) (W : World), _) := fun x y W => (cmp_r x.hr y.hr W).mono (R' := fun e w' => e = .returned (.int .i64 (cmpQ x.r y.r)) ∧ Below W.heap.size W w') fun _ _ ⟨h, k⟩ => ⟨h, k.b⟩
  have K := Kept.start w
  go_enter Try.func5, Try.ntmps5
  go_wp2_with fail
  (with_reducible refine HS.mono ?_); rintro e U1 ⟨Ac, cc, rfl, hi, hb⟩
  replace K := (K.keep hb).add (cl_isC Ac cc c) hi
  clear hi hb HS
  have hN := HN1.out _ _ _ (K.get 0 rfl)
  go_wp2_with fail
  (with_reducible refine hN.mono ?_); rintro e U2 ⟨An, cn, rfl, hi, hb⟩
  replace K := (K.keep hb).add (cl_isC An cn N) hi
  clear hi hb hN HN1
  have hN := HN2.out _ _ _ (K.get 0 rfl)
  go_wp2_with fail
  (with_reducible refine hN.mono ?_); rintro e U3 ⟨Ag, cg, rfl, hi, hb⟩
  replace K := (K.keep hb).add (cl_isC Ag cg N) hi
  clear hi hb hN HN2
  have hne0 : ((N.length : Int) == 0) = false := by simp; omega
  go_wp2_with fail
  go_loopw [50] (fun i wr => ∃ k : Nat, k ≤ N.length ∧ i = .int .i64 ↑k ∧ Kept w [isC Ag cg N, isC An cn N, isC Ac cc c] wr)
    (fun i _ => N.length - (intOf i).toNat)
  case atStart => exact ⟨0, Nat.zero_le _, rfl, K⟩
  case round =>
    clear K
    obtain ⟨k, hk, rfl, K⟩ := hrel
    by_cases hlt : k < N.length
    · have hx : N[k]? = some N[k] := List.getElem?_eq_getElem hlt
      obtain ⟨x, hxe⟩ : ∃ x, N[k] = x := ⟨_, rfl⟩
      rw [hxe] at hx
      have hxm : Hid (x ∈ c) := hnf.out.s x (List.mem_of_getElem? hx)
      obtain ⟨gn, on, rfl, hln, hrn⟩ := (K.get 1 rfl).cells (by assumption)
      obtain ⟨gg, og, rfl, hlg, hrg⟩ := (K.get 0 rfl).cells (by assumption)
      obtain ⟨c0, c1, c2, c3⟩ := hrn k x hx
      obtain ⟨d0, d1, d2, d3⟩ := hrg k x hx
      have Hx := Lib.hid hx
      clear d0 d1 d2 d3 hrn hrg hx hxe
      go_wp2_with fail
      replace K := (K.alloc (.cells #[.int .i64 x.b.num, .int .i64 x.b.den, .int .i64 x.r.num, .int .i64 x.r.den] 45)).add (cl_isB wr.heap.size x) (isB.new wr x)
      clear c0 c1 c2 c3 hln hlg
      generalize wr.alloc (.cells #[.int .i64 x.b.num, .int .i64 x.b.den, .int .i64 x.r.num, .int .i64 x.r.den] 45) = wq at K ⊢
      generalize wr.heap.size = bb at K ⊢
      obtain ⟨_, _, e, hln, hrn⟩ := (K.get 2 rfl).cells hN
      cases e
      obtain ⟨_, _, e, hlg, hrg⟩ := (K.get 1 rfl).cells hN
      cases e
      obtain ⟨hlb, e0, e1, e2, e3⟩ := (K.get 0 rfl : isB bb x wq)
      obtain ⟨d0, d1, d2, d3⟩ := hrg k x Hx.out
      have p0 := Gr.cell e0 hlb
      have p1 := Gr.cell e1 hlb
      have p2 := Gr.cell e2 hlb
      have p3 := Gr.cell e3 hlb
      have g0 := Gr.cell d0 hlg
      have g1 := Gr.cell d1 hlg
      have g2 := Gr.cell d2 hlg
      have g3 := Gr.cell d3 hlg
      have hneq := fun W => neqB_run (x := x) (y := x) W
      rw [decide_eq_true rfl] at hneq
      simp only [Bool.not_true] at hneq
      haveI : Nonempty (Wd (Gr wq)) := ⟨⟨wq, Below.refl _ _⟩⟩
      have hafter : ∀ s0 : Wd (Gr wq), Kept w [isB bb x, isC (some ⟨gg, og, none⟩) cg N, isC (some ⟨gn, on, none⟩) cn N, isC Ac cc c] s0.val := fun s0 => K.keep s0.ok
      have Haf := Lib.hid hafter
      have HNe := Lib.hid hrn
      clear e0 e1 e2 e3 d0 d1 d2 d3 hrg hrn hafter
      by_cases hkp : 0 < k
      case' pos =>
        have z1 : 0 < (k : Int) := by omega
        obtain ⟨j, rfl⟩ : ∃ j, k = j + 1 := ⟨k - 1, by omega⟩
        have hy : N[j]? = some N[j] := List.getElem?_eq_getElem (by omega)
        obtain ⟨y, hye⟩ : ∃ y, N[j] = y := ⟨_, rfl⟩
        rw [hye] at hy
        have hbf : y.bef x := by
          have hp := hnf.out.o
          rw [List.pairwise_iff_getElem] at hp
          have h1 := hp j (j + 1) (by omega) hlt (Nat.lt_succ_self j)
          rw [hye] at h1
          have h2 := Hx.out
          rw [List.getElem?_eq_getElem hlt] at h2
          rw [Option.some.inj h2] at h1
          exact h1
        obtain ⟨y0, y1, y2, y3⟩ := HNe.out j y hy
        have n0 := Gr.cell y0 hln
        have n1 := Gr.cell y1 hln
        have n2 := Gr.cell y2 hln
        have n3 := Gr.cell y3 hln
        have i1 : IntKind.i64.wrap (((j + 1 : Nat) : Int) - 1) = j := by rw [IntWalk.i64_in _ (by omega)]; omega
        have i2 : IntKind.i64.wrap ((j : Int) + 1 - 1) = j := by rw [IntWalk.i64_in _ (by omega)]; omega
        have i3 : ((j : Int) + 1 - 1) = j := by omega
        have q1 : cmpQ y.b x.b < 0 := cmpQ_neg.2 hbf.1
        have q2 : 0 < cmpQ y.r x.r := by
          unfold cmpQ
          rw [if_neg (lt_asymm' hbf.2), if_pos hbf.2]; decide
        have HC1 := HC.out y x
        have HD1 := HD.out y x
        generalize cmpQ y.b x.b = k1 at HC1 q1
        generalize cmpQ y.r x.r = k2 at HD1 q2
        have r1 : ¬ (0 ≤ k1) := by omega
        have r2 : ¬ (k2 ≤ 0) := by omega
        clear q1 q2
        have HC1 := Lib.hid HC1
        have HD1 := Lib.hid HD1
        clear hy hye hbf y0 y1 y2 y3
        refine wp_region_cls (Gr wq) (by kernel_rfl) (by kernel_rfl) (Gr.start wq) ?_
        repeat (go_big_quiet_step (first | (go_at_call 17; (with_reducible exact Calls.cls Gr.close (HC1.out _))) | (go_at_call 17; (with_reducible exact Calls.cls Gr.close (HD1.out _)))))
        refine wpQuiet_nil ?_
        intro _ hw'
        obtain ⟨s0, rfl⟩ := hw'
        have K1 := Haf.out s0
        clear p0 p1 p2 p3 g0 g1 g2 g3 K hneq n0 n1 n2 n3 i1 i2 i3 r1 r2 HC1 HD1
      case' neg =>
        have z1 : ¬ (0 < (k : Int)) := by omega
        refine wp_region_cls (Gr wq) (by kernel_rfl) (by kernel_rfl) (Gr.start wq) ?_
        repeat (go_big_quiet_step (fail))
        refine wpQuiet_nil ?_
        intro _ hw'
        obtain ⟨s0, rfl⟩ := hw'
        have K1 := Haf.out s0
        clear p0 p1 p2 p3 g0 g1 g2 g3 K hneq
      all_goals
        generalize s0.val = v1 at K1 ⊢
        go_wp2_with fail
        go_loopw [91, 10] (fun i f wr => ∃ q : Nat, q ≤ c.length ∧ i = .int .i64 ↑q ∧ f = .bool (decide (x ∈ c.take q)) ∧ Kept w [isB bb x, isC (some ⟨gg, og, none⟩) cg N, isC (some ⟨gn, on, none⟩) cn N, isC Ac cc c] wr)
          (fun i _ _ => c.length - (intOf i).toNat)
        case atStart => exact ⟨0, Nat.zero_le _, rfl, by simp, K1⟩
        case round =>
          clear K1
          obtain ⟨q, hq, rfl, rfl, K1⟩ := hrel
          by_cases hqt : q < c.length
          · have hu : c[q]? = some c[q] := List.getElem?_eq_getElem hqt
            obtain ⟨u, hue⟩ : ∃ u, c[q] = u := ⟨_, rfl⟩
            rw [hue] at hu
            obtain ⟨gc, oc, e, hlc, hrc⟩ := (K1.get 3 rfl).cells hca
            subst e
            obtain ⟨c0, c1, c2, c3⟩ := hrc q u hu
            obtain ⟨_, e0, e1, e2, e3⟩ := (K1.get 0 rfl : isB bb x wr)
            have hts := Lib.hid (take_succ' hu)
            have heql := fun W => eqlB_run (x := u) (y := x) W
            have hmem : Hid (decide (x ∈ c.take (q + 1)) = (decide (x ∈ c.take q) || decide (u = x))) := by
              unfold Hid
              rw [hts.out, Bool.eq_iff_iff]
              simp only [decide_eq_true_iff, Bool.or_eq_true, List.mem_append, List.mem_singleton]
              constructor
              · rintro (h | h)
                · exact .inl h
                · exact .inr h.symm
              · rintro (h | h)
                · exact .inl h
                · exact .inr h.symm
            have K2 := Lib.hid (K1.alloc (.cells #[.int .i64 u.b.num, .int .i64 u.b.den, .int .i64 u.r.num, .int .i64 u.r.den] 45))
            clear hu hue hrc K1
            generalize decide (x ∈ c.take q) = f1 at hmem
            generalize decide (u = x) = d1 at hmem heql
            cases f1
            all_goals
              go_wp2_with fail
              go_roundw
              case rel => exact ⟨q + 1, by omega, by go_num, by rw [hmem.out]; simp, K2.out⟩
              case measure => simp [intOf]; omega
          · obtain rfl : q = c.length := by omega
            have hf : decide (x ∈ c.take c.length) = true := by rw [List.take_length]; exact decide_eq_true hxm.out
            rw [hf]
            clear hf
            go_wp2_with fail
            go_roundw
            case rel => first | exact ⟨k + 1, by omega, by go_num, K1.tl⟩ | exact ⟨j + 1 + 1, by omega, by go_num, K1.tl⟩
            case measure => simp [intOf]; omega
    · obtain rfl : k = N.length := by omega
      go_wp2_with fail
      go_loopw [107] (fun i wr => ∃ k : Nat, k ≤ c.length ∧ i = .int .i64 ↑k ∧ Kept w [isC Ag cg N, isC An cn N, isC Ac cc c] wr)
        (fun i _ => c.length - (intOf i).toNat)
      case atStart => exact ⟨0, Nat.zero_le _, rfl, K⟩
      case round =>
        clear K
        obtain ⟨k, hk, rfl, K⟩ := hrel
        by_cases hlt : k < c.length
        · have hx : c[k]? = some c[k] := List.getElem?_eq_getElem hlt
          obtain ⟨x, hxe⟩ : ∃ x, c[k] = x := ⟨_, rfl⟩
          rw [hxe] at hx
          have hcov : Hid (cov N x = true) := cov_nf hnf.out (List.mem_of_getElem? hx)
          obtain ⟨gc, oc, e, hlc, hrc⟩ := (K.get 2 rfl).cells hca
          subst e
          obtain ⟨c0, c1, c2, c3⟩ := hrc k x hx
          clear hx hxe hrc hlc
          go_wp2_with fail
          replace K := (K.alloc (.cells #[.int .i64 x.b.num, .int .i64 x.b.den, .int .i64 x.r.num, .int .i64 x.r.den] 45)).add (cl_isB wr.heap.size x) (isB.new wr x)
          clear c0 c1 c2 c3
          generalize wr.alloc (.cells #[.int .i64 x.b.num, .int .i64 x.b.den, .int .i64 x.r.num, .int .i64 x.r.den] 45) = wq at K ⊢
          generalize wr.heap.size = bb at K ⊢
          go_loopw [113, 15] (fun i f wr => ∃ q : Nat, q ≤ N.length ∧ i = .int .i64 ↑q ∧ f = .bool (cov (N.take q) x) ∧ Kept w [isB bb x, isC Ag cg N, isC An cn N, isC (some ⟨gc, oc, none⟩) cc c] wr)
            (fun i _ _ => N.length - (intOf i).toNat)
          case atStart => exact ⟨0, Nat.zero_le _, rfl, rfl, K⟩
          case round =>
            clear K
            obtain ⟨q, hq, rfl, rfl, K⟩ := hrel
            by_cases hqt : q < N.length
            · have hy : N[q]? = some N[q] := List.getElem?_eq_getElem hqt
              obtain ⟨y, hye⟩ : ∃ y, N[q] = y := ⟨_, rfl⟩
              rw [hye] at hy
              obtain ⟨gn, on, e, hln, hrn⟩ := (K.get 2 rfl).cells hN
              subst e
              obtain ⟨d0, d1, d2, d3⟩ := hrn q y hy
              have hts := Lib.hid (take_succ' hy)
              have hcs := Lib.hid (cov_snoc (N.take q) y x)
              rw [← hts.out] at hcs
              have HC1 := HC.out y x
              have HD1 := HD.out y x
              have hbx : bb < wr.heap.size ∧ _ := (K.get 0 rfl : isB bb x wr)
              obtain ⟨hbl, e0, e1, e2, e3⟩ := hbx
              have K2 := (K.alloc (.cells #[.int .i64 y.b.num, .int .i64 y.b.den, .int .i64 y.r.num, .int .i64 y.r.den] 45)).add (cl_isB wr.heap.size y) (isB.new wr y)
              clear hy hye hrn hln hts K
              generalize cov (N.take q) x = f1 at hcs
              generalize cmpQ y.b x.b = k1 at HC1 hcs
              generalize cmpQ y.r x.r = k2 at HD1 hcs
              have HC1 := Lib.hid HC1
              have HD1 := Lib.hid HD1
              cases f1
              · by_cases h1 : k1 ≤ 0
                · have x0 := (K2.get 0 rfl : isB wr.heap.size y _).2
                  obtain ⟨x0, x1, x2, x3⟩ := x0
                  clear x0 x1 x2 x3
                  have hd1 : decide (k1 ≤ 0) = true := decide_eq_true h1
                  rw [hd1, Bool.true_and] at hcs
                  go_wp2_with fail
                  (with_reducible refine (HC1.out _).mono ?_); rintro e Y ⟨rfl, hb⟩
                  have K3 := K2.keep hb
                  obtain ⟨_, y0, y1, y2, y3⟩ := (K3.get 0 rfl : isB wr.heap.size y Y)
                  obtain ⟨_, e0, e1, e2, e3⟩ := (K3.get 1 rfl : isB bb x Y)
                  clear K2 hb
                  go_wp2_with fail
                  (with_reducible refine (HD1.out _).mono ?_); rintro e Z ⟨rfl, hb⟩
                  have K4 := Lib.hid (K3.keep hb).tl
                  clear K3 hb y0 y1 y2 y3 e0 e1 e2 e3
                  by_cases h2 : k2 ≤ 0
                  · have hcs2 : Hid (cov (N.take (q + 1)) x = true) := by unfold Hid; rw [hcs.out, decide_eq_true h2]; rfl
                    go_wp2_with fail
                    go_roundw
                    case rel => exact ⟨q + 1, by omega, by go_num, by rw [hcs2.out], K4.out⟩
                    case measure => simp [intOf]; omega
                  · have hcs2 : Hid (cov (N.take (q + 1)) x = false) := by unfold Hid; rw [hcs.out, decide_eq_false h2]; rfl
                    have hd2 := Lib.hid (decide_eq_false h2)
                    go_wp2_with fail
                    go_roundw
                    case rel => exact ⟨q + 1, by omega, by go_num, by rw [hcs2.out, hd2.out], K4.out⟩
                    case measure => simp [intOf]; omega
                · have hcs2 : Hid (cov (N.take (q + 1)) x = false) := by unfold Hid; rw [hcs.out, decide_eq_false h1]; rfl
                  go_wp2_with fail
                  (with_reducible refine (HC1.out _).mono ?_); rintro e Y ⟨rfl, hb⟩
                  have K3 := Lib.hid (K2.keep hb).tl
                  clear K2 hb
                  go_wp2_with fail
                  go_roundw
                  case rel => exact ⟨q + 1, by omega, by go_num, by rw [hcs2.out], K3.out⟩
                  case measure => simp [intOf]; omega
              · have K3 := Lib.hid K2.tl
                clear K2
                go_wp2_with fail
                go_roundw
                case rel => exact ⟨q + 1, by omega, by go_num, by rw [hcs.out]; rfl, K3.out⟩
                case measure => simp [intOf]; omega
            · obtain rfl : q = N.length := by omega
              have hf : Hid (cov (N.take N.length) x = true) := by unfold Hid; rw [List.take_length]; exact hcov.out
              rw [hf.out]
              have K3 := Lib.hid K.tl
              clear K
              go_wp2_with fail
              go_roundw
              case rel => exact ⟨k + 1, by omega, by go_num, K3.out⟩
              case measure => simp [intOf]; omega
        · obtain rfl : k = c.length := by omega
          have K3 := Lib.hid K
          clear K
          go_wp2_with fail
          (with_reducible refine (HW.out _).mono ?_); rintro e Z ⟨rfl, hb⟩
          have hB := Lib.hid (K3.out.keep hb).b
          clear hb
          go_wp2
          go_ret
          exact ⟨rfl, hB.out⟩
end Go.Proofs.Ythkgmgochgjpoaa.Norm2
