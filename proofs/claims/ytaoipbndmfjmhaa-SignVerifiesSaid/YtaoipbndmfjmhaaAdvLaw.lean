/- SignAdvances returns true. -/
import Derived.Test.YtaoipbndmfjmhaaAwake
import Derived.Test.YtaoipbndmfjmhaaVer
import Derived.Test.YtaoipbndmfjmhaaFrame
namespace Go.Proofs.Ytaoipbndmfjmhaa
open Go.RowKit Go.Joins

/-- What Sign returns leads to the root. -/
theorem ver_sign (seed d : BitVec 64) (h q : Nat) (hq : q < 2 ^ h) : verV q d (chainV seed d q) (pathV seed h q) = rootV seed h := by
  have e1 : (pubV fun i => advTo i (digN d i) 15 (chainV seed d q i)) = pubK seed (q : Int) := by
    unfold pubK
    refine pubV_congr fun i _ => ?_
    unfold chainV val
    exact advTo_trans (Nat.zero_le _) (by have := digN_lt d i; omega) _
  unfold verV
  rw [e1]
  exact climb_root seed h q hq
theorem chain_adv (seed d e : BitVec 64) (q : Int) (i : Nat) (h : digN d i ≤ digN e i) : advTo i (digN d i) (digN e i) (chainV seed d q i) = chainV seed e q i := by
  unfold chainV val
  exact advTo_trans (Nat.zero_le _) h _
theorem path_one (seed : BitVec 64) (q : Nat) (hq : q < 2) : (pathV seed 1 q)[0]? = some (pubK seed (1 - (q : Int))) := by
  rw [show pathV seed 1 q = wds 1 fun j => node seed 1 j (sib q j) from rfl, wds_get 1 _ 0 (by decide)]
  congr 1
  unfold node
  rw [lev]
  unfold leaves
  have hs : sib q 0 < 2 ^ 1 ∧ ((sib q 0 : Nat) : Int) = 1 - (q : Int) := by
    unfold sib
    rw [Nat.pow_zero, Nat.div_one]
    split <;> omega
  rw [List.getD_eq_getElem?_getD, wds_get _ _ _ hs.1, ← hs.2]; rfl

namespace Adv

set_option maxRecDepth 100000 in
set_option maxHeartbeats 8000000 in
theorem law (seed d e : BitVec 64) (q : Nat) (hq8 : q < 256) (w : World) :
    Calls Try.prog 7 #[U64 seed, .int .u8 q, U64 d, U64 e] w fun r w' => r = .returned (.bool true) ∧ Below w.heap.size w w' := by
  obtain ⟨k, hk⟩ : ∃ k, q % 2 = k := ⟨_, rfl⟩
  have hk2 : k < 2 := by omega
  have emod : (q : Int) % 2 = (k : Int) := by omega
  have HSd : Hid (∀ W : World, Calls Try.prog 18 #[U64 seed, .int .i64 1, .int .i64 k, U64 d] W fun r w' => ∃ G c, r = .returned (.tuple #[.agg (sgA k (chainV seed d k) (.slice G 1 c)), .int .i64 0]) ∧ isQ G (pathV seed 1 k) w' ∧ Below W.heap.size W w') := fun W => sign_ok seed d 1 k (by decide) hk2 W
  have HSe : Hid (∀ W : World, Calls Try.prog 18 #[U64 seed, .int .i64 1, .int .i64 k, U64 e] W fun r w' => ∃ G c, r = .returned (.tuple #[.agg (sgA k (chainV seed e k) (.slice G 1 c)), .int .i64 0]) ∧ isQ G (pathV seed 1 k) w' ∧ Below W.heap.size W w') := fun W => sign_ok seed e 1 k (by decide) hk2 W
  have HR : Hid (∀ W : World, Calls Try.prog 17 #[U64 seed, .int .i64 1] W fun r w' => r = .returned (.tuple #[U64 (rootV seed 1), .int .i64 0]) ∧ Below W.heap.size W w') := fun W => root_ok seed 1 (by decide) W
  have HVd : Hid (∀ (G : Option Addr) (c : Nat) (W : World), isQ G (pathV seed 1 k) W → Calls Try.prog 27 #[U64 (rootV seed 1), .int .i64 1, U64 d, .agg (sgA k (chainV seed d k) (.slice G 1 c))] W fun r w' => r = .returned (.bool true) ∧ Below W.heap.size W w') := fun G c W h => by
    have := verify_yes (rootV seed 1) d 1 k (chainV seed d k) G c (pathV seed 1 k) (pathV_len _ _ _) (by decide) hk2 W h
    rwa [ver_sign seed d 1 k hk2, decide_eq_true rfl] at this
  have HVe : Hid (∀ (G : Option Addr) (c : Nat) (W : World), isQ G (pathV seed 1 k) W → Calls Try.prog 27 #[U64 (rootV seed 1), .int .i64 1, U64 e, .agg (sgA k (chainV seed e k) (.slice G 1 c))] W fun r w' => r = .returned (.bool true) ∧ Below W.heap.size W w') := fun G c W h => by
    have := verify_yes (rootV seed 1) e 1 k (chainV seed e k) G c (pathV seed 1 k) (pathV_len _ _ _) (by decide) hk2 W h
    rwa [ver_sign seed e 1 k hk2, decide_eq_true rfl] at this
  have HDd : Hid (∀ W : World, _) := fun W => digits_any d W
  have HDe : Hid (∀ W : World, _) := fun W => digits_any e W
  have HSt : Hid (∀ (i n : Int) (x : BitVec 64) (W : World), _) := fun i n x W => step_any i n x W
  have HPb : Hid (∀ W : World, _) := fun W => pubK_any seed (1 - (k : Int)) W
  have HAw : Hid (∀ W : World, _) := fun W => awake_true W
  have hp1 := path_one seed k hk2
  have hchd : Hid (∀ p i, i < 18 → (sgA (k : Int) (chainV seed d k) p)[1 + i]? = some (U64 (chainV seed d k i))) := fun p i h => sgA_chain _ _ p i h
  have hche : Hid (∀ p i, i < 18 → (sgA (k : Int) (chainV seed e k) p)[1 + i]? = some (U64 (chainV seed e k i))) := fun p i h => sgA_chain _ _ p i h
  have hpad : Hid (∀ p, (sgA (k : Int) (chainV seed d k) p)[19]? = some p) := fun p => sgA_path _ _ p
  have hszd : Hid (∀ p, (sgA (k : Int) (chainV seed d k) p).size = 20) := fun p => sgA_size _ _ p
  have hsze : Hid (∀ p, (sgA (k : Int) (chainV seed e k) p).size = 20) := fun p => sgA_size _ _ p
  have hond : Hid (∀ G c, (sgA (k : Int) (chainV seed d k) (.slice G 1 c)).all (·.oneCell') = true) := fun G c => sgA_one _ _ _ rfl
  have hone : Hid (∀ G c, (sgA (k : Int) (chainV seed e k) (.slice G 1 c)).all (·.oneCell') = true) := fun G c => sgA_one _ _ _ rfl
  have hadv : Hid (∀ i, digN d i ≤ digN e i → advTo i (digN d i) (digN e i) (chainV seed d k i) = chainV seed e k i) := fun i h => chain_adv seed d e k i h
  have td : Hid (∀ i, i < 18 → (rowI (digN d) 18)[i]? = some (.int .i64 (digN d i : Int))) := fun i h => rowI_get _ _ _ h
  have te : Hid (∀ i, i < 18 → (rowI (digN e) 18)[i]? = some (.int .i64 (digN e i : Int))) := fun i h => rowI_get _ _ _ h
  have sd : (rowI (digN d) 18).size = 18 := rowI_size _ _
  have se : (rowI (digN e) 18).size = 18 := rowI_size _ _
  have od := rowI_one (digN d) 18
  have oe := rowI_one (digN e) 18
  generalize rootV seed 1 = rt at *
  generalize pubK seed (1 - (k : Int)) = pb at *
  generalize pathV seed 1 k = pl at *
  generalize sgA (k : Int) (chainV seed d k) = Sd at *
  generalize sgA (k : Int) (chainV seed e k) = Se at *
  generalize rowI (digN d) 18 = Td at *
  generalize rowI (digN e) 18 = Te at *
  have hz := zero_tI (fun _ => .int .i64 0)
  obtain ⟨Z, hZ⟩ : ∃ Z, parV 18 (fun _ => Value.int .i64 0) (.int .i64 0) 0 = Z := ⟨_, rfl⟩
  rw [hZ] at hz
  have hZs : Z.size = 18 := by rw [← hZ, parV_size]
  have hzs := zero_sig
  obtain ⟨Y, hY⟩ : ∃ Y, (#[.int .i64 0, .int .u64 0, .int .u64 0, .int .u64 0, .int .u64 0, .int .u64 0, .int .u64 0, .int .u64 0, .int .u64 0, .int .u64 0, .int .u64 0, .int .u64 0, .int .u64 0, .int .u64 0, .int .u64 0, .int .u64 0, .int .u64 0, .int .u64 0, .int .u64 0, .slice none 0 0] : Array Value) = Y := ⟨_, rfl⟩
  rw [hY] at hzs
  have hYs : Y.size = 20 := by rw [← hY]; rfl
  clear hZ hY
  have hid : (Try.prog.info? 24).map (·.size) = some Td.size := by rw [sd]; exact info_tI
  have hie : (Try.prog.info? 24).map (·.size) = some Te.size := by rw [se]; exact info_tI
  have zd : Z.size = Td.size := by rw [sd, hZs]
  have ze : Z.size = Te.size := by rw [se, hZs]
  clear sd se hZs hk
  go_enter Try.func7, Try.ntmps7
  have hB := Below.refl w.heap.size w
  go_wp2_with fail
  (with_reducible refine (HSd.out _).mono ?_); rintro r w1 ⟨Gx, cx, rfl, hqx, hb1⟩
  replace hB := hB.trans (hb1.mono hB.size)
  clear hb1
  have hidS : (Try.prog.info? 34).map (·.size) = some (Sd (.slice Gx 1 cx)).size := by rw [hszd.out]; exact info_sig
  have hzdS : Y.size = (Sd (.slice Gx 1 cx)).size := by rw [hszd.out, hYs]
  have hodS := hond.out Gx cx
  have bY := BoxN.new w1 34 Y
  have bx : BoxN ((w1.alloc (.cells Y 34)).setRow w1.heap.size (Sd (.slice Gx 1 cx))) w1.heap.size 34 (Sd (.slice Gx 1 cx)) := bY.setRow _
  have hz1 := hB.size
  replace hqx := hqx.keep (below_setRow ((Below.refl w1.heap.size w1).alloc (Nat.le_refl _) (.cells Y 34)) (Nat.le_refl _) (Sd (.slice Gx 1 cx)))
  replace hB := below_setRow (hB.alloc hz1 (.cells Y 34)) hz1 (Sd (.slice Gx 1 cx))
  go_wp2_with (refine wpList_store_rowTo rfl 34 _ _ rfl rfl w1.heap.size (Sd (.slice Gx 1 cx)) rfl rfl _ Y bY hidS hzdS hodS ?_)
  generalize (w1.alloc (.cells Y 34)).setRow w1.heap.size (Sd (.slice Gx 1 cx)) = v1 at bx hqx hB ⊢
  generalize w1.heap.size = gx at bx hz1 ⊢
  clear bY hzdS hodS
  (with_reducible refine (HSe.out _).mono ?_); rintro r w2 ⟨Gy, cy, rfl, hqy, hb2⟩
  replace bx := bx.keep hb2
  replace hqx := hqx.keep hb2
  replace hB := hB.trans (hb2.mono hB.size)
  clear hb2
  have hieS : (Try.prog.info? 34).map (·.size) = some (Se (.slice Gy 1 cy)).size := by rw [hsze.out]; exact info_sig
  have hzeS : Y.size = (Se (.slice Gy 1 cy)).size := by rw [hsze.out, hYs]
  have hoeS := hone.out Gy cy
  have bY := BoxN.new w2 34 Y
  have by' : BoxN ((w2.alloc (.cells Y 34)).setRow w2.heap.size (Se (.slice Gy 1 cy))) w2.heap.size 34 (Se (.slice Gy 1 cy)) := bY.setRow _
  have hz2 := hB.size
  have hgx2 := bx.lt
  replace bx := BoxN.farRow (bx.alloc (.cells Y 34)) (g := w2.heap.size) (by omega) (Se (.slice Gy 1 cy))
  replace hqx := hqx.keep (below_setRow ((Below.refl w2.heap.size w2).alloc (Nat.le_refl _) (.cells Y 34)) (Nat.le_refl _) (Se (.slice Gy 1 cy)))
  replace hqy := hqy.keep (below_setRow ((Below.refl w2.heap.size w2).alloc (Nat.le_refl _) (.cells Y 34)) (Nat.le_refl _) (Se (.slice Gy 1 cy)))
  replace hB := below_setRow (hB.alloc hz2 (.cells Y 34)) hz2 (Se (.slice Gy 1 cy))
  go_wp2_with (refine wpList_store_rowTo rfl 34 _ _ rfl rfl w2.heap.size (Se (.slice Gy 1 cy)) rfl rfl _ Y bY hieS hzeS hoeS ?_)
  generalize (w2.alloc (.cells Y 34)).setRow w2.heap.size (Se (.slice Gy 1 cy)) = v2 at bx by' hqx hqy hB ⊢
  generalize w2.heap.size = gy at by' hz2 hgx2 ⊢
  clear bY hzeS hoeS hzs hYs
  (with_reducible refine (HR.out _).mono ?_); rintro r w3 ⟨rfl, hb3⟩
  replace bx := bx.keep hb3
  replace by' := by'.keep hb3
  replace hqx := hqx.keep hb3
  replace hqy := hqy.keep hb3
  replace hB := hB.trans (hb3.mono hB.size)
  clear hb3
  go_wp2_with fail
  (with_reducible refine (HDd.out _).mono ?_); rintro r w4 ⟨rfl, hb4⟩
  replace bx := bx.keep hb4
  replace by' := by'.keep hb4
  replace hqx := hqx.keep hb4
  replace hqy := hqy.keep hb4
  replace hB := hB.trans (hb4.mono hB.size)
  clear hb4
  go_wp2_with fail
  (with_reducible refine (HDe.out _).mono ?_); rintro r w5 ⟨rfl, hb5⟩
  replace bx := bx.keep hb5
  replace by' := by'.keep hb5
  replace hqx := hqx.keep hb5
  replace hqy := hqy.keep hb5
  replace hB := hB.trans (hb5.mono hB.size)
  clear hb5
  have b0 : BoxN ((w5.alloc (.cells Z 24)).alloc (.cells Z 24)) w5.heap.size 24 Z := (BoxN.new w5 _ _).alloc _
  have b1 : BoxN ((w5.alloc (.cells Z 24)).alloc (.cells Z 24)) (w5.heap.size + 1) 24 Z := by
    have := BoxN.new (w5.alloc (.cells Z 24)) 24 Z
    rwa [World.size_alloc] at this
  have hz5 := hB.size
  have hgx5 := bx.lt
  have hgy5 := by'.lt
  have hBs : Below w5.heap.size w5 ((((w5.alloc (.cells Z 24)).alloc (.cells Z 24)).setRow w5.heap.size Td).setRow (w5.heap.size + 1) Te) := below_setRow (below_setRow (((Below.refl _ w5).alloc (Nat.le_refl _) _).alloc (by simp) _) (Nat.le_refl _) Td) (Nat.le_succ _) Te
  have r0 := BoxN.setRow b0 Td
  have r1 := BoxN.farRow b1 (g := w5.heap.size) (by omega) Td
  have q1 := BoxN.setRow r1 Te
  have q0 := BoxN.farRow r0 (g := w5.heap.size + 1) (by omega) Te
  replace bx := bx.keep hBs
  replace by' := by'.keep hBs
  replace hqx := hqx.keep hBs
  replace hqy := hqy.keep hBs
  replace hB := hB.trans (hBs.mono hz5)
  go_wp2_with (first | (refine wpList_store_rowTo rfl 24 _ _ rfl rfl w5.heap.size Td rfl rfl _ Z b0 hid zd od ?_) | (refine wpList_store_rowTo rfl 24 _ _ rfl rfl (w5.heap.size + 1) Te rfl rfl _ Z r1 hie ze oe ?_))
  clear b0 b1 r0 r1 hBs hz zd ze hid hie od oe
  generalize (((w5.alloc (.cells Z 24)).alloc (.cells Z 24)).setRow w5.heap.size Td).setRow (w5.heap.size + 1) Te = W3 at q0 q1 bx by' hqx hqy hB ⊢
  generalize w5.heap.size = g0 at q0 q1 ⊢
  go_loopw [54] (fun i wr => ∃ m : Nat, m ≤ 18 ∧ i = .int .i64 m ∧ BoxN wr gx 34 (Sd (.slice Gx 1 cx)) ∧ BoxN wr gy 34 (Se (.slice Gy 1 cy)) ∧ BoxN wr g0 24 Td ∧ BoxN wr (g0 + 1) 24 Te ∧ isQ Gx pl wr ∧ isQ Gy pl wr ∧ Below w.heap.size w wr)
    (fun i _ => (18 - intOf i).toNat)
  case atStart => exact ⟨0, by omega, rfl, bx, by', q0, q1, hqx, hqy, hB⟩
  case round =>
    clear bx by' q0 q1 hqx hqy hB
    obtain ⟨m, hm, rfl, bx, by', q0, q1, hqx, hqy, hB⟩ := hrel
    by_cases hlt : m < 18
    · have hd : decide ((m : Int) < 18) = true := by simp; omega
      have c0 := q0.cell m
      have c1 := q1.cell m
      rw [td.out m hlt] at c0
      rw [te.out m hlt] at c1
      have cx' := bx.cell (1 + m)
      have cy' := by'.cell (1 + m)
      rw [hchd.out _ m hlt] at cx'
      rw [hche.out _ m hlt] at cy'
      have hadm := Lib.hid (hadv.out m)
      have hA15 := digN_lt d m
      have hB15 := digN_lt e m
      have hA0 : Hid (∀ a (x : BitVec 64), advTo m a a x = x) := fun a x => advTo_self m a x
      have hA1 : Hid (∀ a b (x : BitVec 64), a ≤ b → advTo m a (b + 1) x = stp m b (advTo m a b x)) := fun a b x h => advTo_succ h x
      generalize digN d m = A at *
      generalize digN e m = Bd at *
      generalize chainV seed d k m = xc at *
      generalize chainV seed e k m = yc at *
      have hgl := q1.lt
      go_wp2_with fail
      have C0 := Lib.hid c0
      have CY := Lib.hid cy'
      have hgl0 := q0.lt
      have hgly := by'.lt
      clear cx' c0 cy'
      go_loopw [19, 20] (fun v n wi => ∃ j : Nat, A ≤ j ∧ (j ≤ Bd ∨ j = A) ∧ n = .int .i64 j ∧ v = U64 (advTo m A j xc) ∧ Below wr.heap.size wr wi)
        (fun _ n _ => (16 - intOf n).toNat)
      case atStart => exact ⟨A, Nat.le_refl _, .inr rfl, rfl, by rw [hA0.out], Below.refl _ _⟩
      case round =>
        obtain ⟨j, hAj, hjB, rfl, rfl, hbi⟩ := hrel
        replace c1 := (hbi.cell (p := ⟨g0 + 1, m, none⟩) hgl).trans c1
        by_cases hjl : j < Bd
        · have hl : decide ((j : Int) < (Bd : Int)) = true := by simp; omega
          have hstep := hA1.out A j xc hAj
          have HSs := Lib.hid (HSt.out (m : Int) (j : Int) (advTo m A j xc))
          rw [← hstep] at HSs
          obtain ⟨y1, hy1⟩ : ∃ y, advTo m A (j + 1) xc = y := ⟨_, rfl⟩
          rw [hy1] at HSs
          have HY := Lib.hid hy1
          clear hy1 hstep
          generalize advTo m A j xc = y0 at *
          have hzz := hbi.size
          go_wp2_with fail
          (with_reducible refine (HSs.out _).mono ?_); rintro r w6 ⟨rfl, hb6⟩
          replace hbi := Lib.hid (hbi.trans (hb6.mono hzz))
          clear hb6 c1
          go_wp2_with fail
          go_roundw
          case rel => exact ⟨j + 1, by omega, .inl (by omega), by go_num, by rw [HY.out], hbi.out⟩
          case measure => simp [intOf]; omega
        · have hl : decide ((j : Int) < (Bd : Int)) = false := by simp; omega
          replace bx := bx.keep hbi
          replace by' := by'.keep hbi
          replace q0 := q0.keep hbi
          replace q1 := q1.keep hbi
          replace hqx := Lib.hid (hqx.keep hbi)
          replace hqy := Lib.hid (hqy.keep hbi)
          replace hB := hB.trans (hbi.mono hB.size)
          have c0 := (hbi.cell (p := ⟨g0, m, none⟩) hgl0).trans C0.out
          have cy' := (hbi.cell (p := ⟨gy, 1 + m, none⟩) hgly).trans CY.out
          clear hbi
          by_cases hle : A ≤ Bd
          · have e1 : decide ((A : Int) ≤ (Bd : Int)) = true := by simp; omega
            have hj : j = Bd := by omega
            subst hj
            rw [hadm.out hle]
            have hyy : ((yc.toNat : Int) != (yc.toNat : Int)) = false := by simp
            go_wp2_with fail
            go_quiet (fail)
            replace bx := Lib.hid (bx.drewN nq)
            replace by' := Lib.hid (by'.drewN nq)
            replace q0 := Lib.hid (q0.drewN nq)
            replace q1 := Lib.hid (q1.drewN nq)
            replace hB := Lib.hid (below_drewN hB nq)
            have hqx' := Lib.hid (hqx.out.keep (below_drewN (Below.refl _ _) nq))
            have hqy' := Lib.hid (hqy.out.keep (below_drewN (Below.refl _ _) nq))
            clear c0 c1 cy'
            go_wp2_with fail
            go_roundw
            case rel => exact ⟨m + 1, by omega, by go_num, bx.out, by'.out, q0.out, q1.out, hqx'.out, hqy'.out, hB.out⟩
            case measure => simp [intOf]; omega
          · have e1 : decide ((A : Int) ≤ (Bd : Int)) = false := by simp; omega
            generalize advTo m A j xc = y0 at *
            go_wp2_with fail
            go_quiet (fail)
            replace bx := Lib.hid (bx.drewN nq)
            replace by' := Lib.hid (by'.drewN nq)
            replace q0 := Lib.hid (q0.drewN nq)
            replace q1 := Lib.hid (q1.drewN nq)
            replace hB := Lib.hid (below_drewN hB nq)
            have hqx' := Lib.hid (hqx.out.keep (below_drewN (Below.refl _ _) nq))
            have hqy' := Lib.hid (hqy.out.keep (below_drewN (Below.refl _ _) nq))
            clear c0 c1 cy'
            go_wp2_with fail
            go_roundw
            case rel => exact ⟨m + 1, by omega, by go_num, bx.out, by'.out, q0.out, q1.out, hqx'.out, hqy'.out, hB.out⟩
            case measure => simp [intOf]; omega
    · have hkm : wrap64 (1 - (k : Int)) = 1 - (k : Int) := by unfold wrap64; omega
      go_wp2_with fail
      (with_reducible refine (HPb.out _).mono ?_); rintro r w7 ⟨rfl, hb7⟩
      replace bx := bx.keep hb7
      replace by' := by'.keep hb7
      replace hqx := hqx.keep hb7
      replace hqy := hqy.keep hb7
      replace hB := hB.trans (hb7.mono hB.size)
      clear hb7
      have c19 := bx.cell 19
      rw [hpad.out] at c19
      have hne : pl ≠ [] := by intro h; rw [h] at hp1; simp at hp1
      obtain ⟨b, off, rfl, hbl, hr⟩ := hqx hne
      have cp := hr 0 pb hp1
      rw [Nat.add_zero] at cp
      have hld := Lib.hid (run_loadVar_row (P := Try.prog) _ _ _ 34 _ (0, 0) _ bx Try.underlying34 rfl hidS)
      go_wp2_with (refine wpList_load_sub (by rfl) 34 _ rfl ⟨gx, 0, none⟩ rfl (.agg (Sd (.slice (some ⟨b, off, none⟩) 1 cx))) hld.out ?_)
      (with_reducible refine (HVd.out _ _ _ hqx).mono ?_); rintro r w8 ⟨rfl, hb8⟩
      replace by' := by'.keep hb8
      replace hqy := hqy.keep hb8
      replace hB := hB.trans (hb8.mono hB.size)
      have hld2 := Lib.hid (run_loadVar_row (P := Try.prog) _ _ _ 34 _ (0, 0) _ by' Try.underlying34 rfl hieS)
      clear hb8 hld c19 cp bx hqx
      go_wp2_with (refine wpList_load_sub (by rfl) 34 _ rfl ⟨gy, 0, none⟩ rfl (.agg (Se (.slice Gy 1 cy))) hld2.out ?_)
      (with_reducible refine (HVe.out _ _ _ hqy).mono ?_); rintro r w9 ⟨rfl, hb9⟩
      replace hB := hB.trans (hb9.mono hB.size)
      clear hb9 hld2 by' hqy
      go_wp2_with fail
      (with_reducible refine (HAw.out _).mono ?_); rintro r w10 ⟨rfl, hb10⟩
      replace hB := hB.trans (hb10.mono hB.size)
      go_wp2_with fail
      go_ret
      exact ⟨rfl, hB⟩

theorem walk (seed q d e : Int) (w : World) (hs0 : 0 ≤ seed) (hs1 : seed ≤ 18446744073709551615) (hq0 : 0 ≤ q) (hq1 : q ≤ 255) (hd0 : 0 ≤ d) (hd1 : d ≤ 18446744073709551615) (he0 : 0 ≤ e) (he1 : e ≤ 18446744073709551615) :
    Calls Try.prog 7 #[.int .u64 seed, .int .u8 q, .int .u64 d, .int .u64 e] w fun r w' => r = .returned (.bool true) ∧ Below w.heap.size w w' := by
  obtain ⟨seed, rfl⟩ := int_bv (n := 64) hs0 (by omega)
  obtain ⟨d, rfl⟩ := int_bv (n := 64) hd0 (by omega)
  obtain ⟨e, rfl⟩ := int_bv (n := 64) he0 (by omega)
  obtain ⟨q, rfl⟩ : ∃ n : Nat, q = (n : Int) := ⟨q.toNat, by omega⟩
  exact law seed d e q (by omega) w
end Adv
end Go.Proofs.Ytaoipbndmfjmhaa
