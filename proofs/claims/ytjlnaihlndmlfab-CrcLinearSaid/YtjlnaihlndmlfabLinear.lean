/- CrcLinear returns true. -/
import Derived.Test.YtjlnaihlndmlfabBurst
import Derived.Test.YtjlnaihlndmlfabCls
namespace Go.Proofs.Ytjlnaihlndmlfab
open Go.RowKit Go.Joins
namespace Linear

/-- The bytewise exclusive or, its first k bytes. -/
def mx (a b c : List (BitVec 8)) (m k : Nat) : List (BitVec 8) := (List.range m).map fun i => if i < k then a.getD i 0#8 ^^^ b.getD i 0#8 ^^^ c.getD i 0#8 else 0#8
theorem mx_len (a b c : List (BitVec 8)) (m k : Nat) : (mx a b c m k).length = m := by simp [mx]
theorem mx_zero (a b c : List (BitVec 8)) (m : Nat) : mx a b c m 0 = List.replicate m 0#8 := by
  apply List.ext_getElem?
  intro i
  unfold mx
  by_cases h : i < m
  · simp [h]
  · rw [List.getElem?_eq_none (by simp; omega), List.getElem?_eq_none (by simp; omega)]
theorem mx_set (a b c : List (BitVec 8)) (m k : Nat) : (mx a b c m k).set k (a.getD k 0#8 ^^^ b.getD k 0#8 ^^^ c.getD k 0#8) = mx a b c m (k + 1) := by
  apply List.ext_getElem?
  intro i
  rw [List.getElem?_set]
  unfold mx
  by_cases hi : i < m
  · by_cases e : k = i
    · subst e; simp [hi]
    · rw [if_neg e]
      simp only [List.getElem?_map, List.getElem?_range hi, Option.map_some]
      by_cases h1 : i < k
      · rw [if_pos h1, if_pos (by omega)]
      · rw [if_neg h1, if_neg (by omega)]
  · rw [List.getElem?_eq_none (by simp; omega), List.getElem?_eq_none (by simp; omega)]
    split
    · rw [if_neg (by simp; omega)]
    · rfl
theorem mx_zip (a b c : List (BitVec 8)) (m : Nat) (ha : m ≤ a.length) (hb : m ≤ b.length) (hc : m ≤ c.length) : mx a b c m m = List.zipWith (· ^^^ ·) (List.zipWith (· ^^^ ·) (a.take m) (b.take m)) (c.take m) := by
  apply List.ext_getElem?
  intro i
  unfold mx
  by_cases hi : i < m
  · simp only [List.getElem?_map, List.getElem?_range hi, Option.map_some, if_pos hi, List.getElem?_zipWith, List.getElem?_take, List.getD_eq_getElem?_getD]
    rw [List.getElem?_eq_getElem (by omega : i < a.length), List.getElem?_eq_getElem (by omega : i < b.length), List.getElem?_eq_getElem (by omega : i < c.length)]
    simp
  · rw [List.getElem?_eq_none (by simp; omega), List.getElem?_eq_none (by simp; omega)]
theorem sum_lin (a b c : List (BitVec 8)) (m : Nat) (ha : m ≤ a.length) (hb : m ≤ b.length) (hc : m ≤ c.length) : sum (mx a b c m m) = sum (a.take m) ^^^ sum (b.take m) ^^^ sum (c.take m) := by
  rw [mx_zip a b c m ha hb hc]
  unfold sum upd
  have h1 := up_xor (List.zipWith (· ^^^ ·) (a.take m) (b.take m)) (c.take m) (~~~ 0#32 ^^^ ~~~ 0#32) (~~~ 0#32) (by simp; omega)
  rw [up_xor (a.take m) (b.take m) (~~~ 0#32) (~~~ 0#32) (by simp; omega)] at h1
  have e : ~~~ 0#32 ^^^ ~~~ 0#32 ^^^ ~~~ 0#32 = ~~~ 0#32 := by decide
  rw [e] at h1
  rw [h1]
  generalize up (~~~ 0#32) (a.take m) = x
  generalize up (~~~ 0#32) (b.take m) = y
  generalize up (~~~ 0#32) (c.take m) = z
  apply BitVec.eq_of_getLsbD_eq
  intro i hi
  simp only [BitVec.getLsbD_not, BitVec.getLsbD_xor, decide_eq_true hi, Bool.true_and]
  cases x.getLsbD i <;> cases y.getLsbD i <;> cases z.getLsbD i <;> rfl

theorem zeros_map : ∀ l : List Nat, l.map (fun _ => Value.int .u8 0) = List.replicate l.length (U8 0#8)
  | [] => rfl
  | _ :: l => by rw [List.map_cons, zeros_map l]; rfl
theorem min4 (a b c m : Nat) (hm : m = min (min (min a b) c) 300) (t : Array TypeId) (ty : TypeId) (W : World) : (Builtin.min_ t ty #[.int .i64 a, .int .i64 b, .int .i64 c, .int .i64 300]).run Try.prog W = .ok (.int .i64 m) W := by
  simp only [Builtin.min_, Builtin.min2, List.foldlM, pure_bind, bind_pure]
  simp only [Sem.run_pure, Result.ok.injEq, Value.int.injEq, true_and, and_true]
  omega

set_option maxRecDepth 100000 in
set_option maxHeartbeats 8000000 in
theorem walk (A : Option Addr) (ca : Nat) (a : List (BitVec 8)) (B : Option Addr) (cb : Nat) (b : List (BitVec 8)) (C : Option Addr) (cc : Nat) (c : List (BitVec 8)) (at' x : Int) (w : World) (hda : Data w A ca a) (hdb : Data w B cb b) (hdc : Data w C cc c) (ha0 : -9223372036854775808 ≤ at') (ha1 : at' ≤ 9223372036854775807) (hx0 : 0 ≤ x) (hx1 : x ≤ 4294967295) :
    Calls Try.prog 5 #[.slice A a.length ca, .slice B b.length cb, .slice C c.length cc, .int .i64 at', .int .u32 x] w fun e w' => e = .returned (.bool true) ∧ Below w.heap.size w w' := by
  obtain ⟨x, rfl⟩ := int_bv (n := 32) hx0 (by omega)
  obtain ⟨i0, hi, hz0, hz1, hz2⟩ := info_parts infoB
  have HW : Hid (∀ W : World, _) := fun W => Aw.walk W
  have c1 := hda.cap
  have c2 := hdb.cap
  have c3 := hdc.cap
  have l1 := hda.len
  have l2 := hdb.len
  have l3 := hdc.len
  obtain ⟨m, hm⟩ : ∃ m, m = min (min (min a.length b.length) c.length) 300 := ⟨_, rfl⟩
  have ma : m ≤ a.length := by omega
  have mb : m ≤ b.length := by omega
  have mc : m ≤ c.length := by omega
  have m3 : m ≤ 300 := by omega
  have hlin := sum_lin a b c m ma mb mc
  have hta : (a.take m).length = m := by rw [List.length_take]; omega
  have htb : (b.take m).length = m := by rw [List.length_take]; omega
  have htc : (c.take m).length = m := by rw [List.length_take]; omega
  have KA : Hid (∀ v, Below w.heap.size w v → isB A (a.take m) v) := fun v h => (hda.row.keep h).take m
  have KB : Hid (∀ v, Below w.heap.size w v → isB B (b.take m) v) := fun v h => (hdb.row.keep h).take m
  have KC : Hid (∀ v, Below w.heap.size w v → isB C (c.take m) v) := fun v h => (hdc.row.keep h).take m
  obtain ⟨sx, hsx⟩ : ∃ s, sum (a.take m) = s := ⟨_, rfl⟩
  obtain ⟨sy, hsy⟩ : ∃ s, sum (b.take m) = s := ⟨_, rfl⟩
  obtain ⟨sz, hsz⟩ : ∃ s, sum (c.take m) = s := ⟨_, rfl⟩
  rw [hsx, hsy, hsz] at hlin
  have HSA : Hid (∀ (W : World), Below w.heap.size w W → _) := fun W h => sum_n (cap := ca) m hta sx hsx (by omega) W (KA.out W h)
  have HSB : Hid (∀ (W : World), Below w.heap.size w W → _) := fun W h => sum_n (cap := cb) m htb sy hsy (by omega) W (KB.out W h)
  have HSC : Hid (∀ (W : World), Below w.heap.size w W → _) := fun W h => sum_n (cap := cc) m htc sz hsz (by omega) W (KC.out W h)
  have q1 := xor32 sx sy
  have q2 := xor32 (sx ^^^ sy) sz
  rw [← hlin] at q2
  obtain ⟨sm, hsm⟩ : ∃ s, sum (mx a b c m m) = s := ⟨_, rfl⟩
  rw [hsm] at q2
  generalize sx ^^^ sy = sxy at q1 q2
  have HM : Hid (∀ (G : Option Addr) (g : Nat) (W : World), isB G (mx a b c m m) W → _) := fun G g W h => sum_n (cap := g) m (mx_len a b c m m) sm hsm (by omega) W h
  have RA : Hid (∀ k, k < m → ∃ ba oa, A = some ⟨ba, oa, none⟩ ∧ ba < w.heap.size ∧ w.cell? ⟨ba, oa + k, none⟩ = some (U8 (a.getD k 0#8))) := fun k hk => by
    obtain ⟨ba, oa, e, hb, hr⟩ := hda.row (by intro h; rw [h] at ma; simp at ma; omega)
    exact ⟨ba, oa, e, hb, hr k _ (by rw [List.getD_eq_getElem?_getD, List.getElem?_eq_getElem (by omega)]; rfl)⟩
  have RB : Hid (∀ k, k < m → ∃ ba oa, B = some ⟨ba, oa, none⟩ ∧ ba < w.heap.size ∧ w.cell? ⟨ba, oa + k, none⟩ = some (U8 (b.getD k 0#8))) := fun k hk => by
    obtain ⟨ba, oa, e, hb, hr⟩ := hdb.row (by intro h; rw [h] at mb; simp at mb; omega)
    exact ⟨ba, oa, e, hb, hr k _ (by rw [List.getD_eq_getElem?_getD, List.getElem?_eq_getElem (by omega)]; rfl)⟩
  have RC : Hid (∀ k, k < m → ∃ ba oa, C = some ⟨ba, oa, none⟩ ∧ ba < w.heap.size ∧ w.cell? ⟨ba, oa + k, none⟩ = some (U8 (c.getD k 0#8))) := fun k hk => by
    obtain ⟨ba, oa, e, hb, hr⟩ := hdc.row (by intro h; rw [h] at mc; simp at mc; omega)
    exact ⟨ba, oa, e, hb, hr k _ (by rw [List.getD_eq_getElem?_getD, List.getElem?_eq_getElem (by omega)]; rfl)⟩
  have HF : Hid (∀ (k : Nat), k < 8 * m → ∀ (W : World), isB A (a.take m) W → _) := fun k hk W h => flipped_any A ca (a.take m) m hta (by omega) k (by omega) x W h
  have HSF : Hid (∀ (k : Nat), k < 8 * m → ∃ sf, sf ≠ sx ∧ ∀ (G : Option Addr) (g : Nat) (W : World), isB G (fl (a.take m) k (x ||| 1#32) 32) W → Calls Try.prog 14 #[.slice G m g] W fun e w' => e = .returned (U32 sf) ∧ Below W.heap.size W w') := fun k hk =>
    ⟨_, by rw [← hsx]; exact burst_sum (a.take m) k (x ||| 1#32) (Burst.or_bit x) (by rw [hta]; exact hk), fun G g W h => sum_n m (by rw [fl_len, hta]) _ rfl (by omega) W h⟩
  have hmk : Hid ((madeCells (Value.int .u8 0).cells (m * 1)).toList = cellsB (mx a b c m 0)) := by
    unfold Hid; rw [mx_zero]; simp [madeCells, cellsB, Value.cells, Nat.mod_one]
    have := zeros_map (List.range m)
    rwa [List.length_range] at this
  have hms : Hid (∀ k, (mx a b c m k).set k (a.getD k 0#8 ^^^ b.getD k 0#8 ^^^ c.getD k 0#8) = mx a b c m (k + 1)) := fun k => mx_set a b c m k
  have Hm : Hid (m = min (min (min a.length b.length) c.length) 300) := hm
  have hmin := fun W => min4 a.length b.length c.length m hm #[3, 3, 3, 3] 3 W
  clear hm hda hdb hdc hta htb htc hsx hsy hsz hlin hsm
  generalize a.length = na at hmin Hm l1 ma ⊢
  generalize b.length = nb at hmin Hm l2 mb ⊢
  generalize c.length = nc at hmin Hm l3 mc ⊢
  go_enter Try.func5, Try.ntmps5
  go_wp2_with (refine wpList_make_full _ rfl _ _ 22 rfl w.heap.size 5 i0 _ 1 Try.underlying22 hi hz0 hz1 .i64 .i64 _ _ m rfl rfl rfl rfl (by rw [hz2]; omega) (by unfold maxLen; omega) (Nat.le_refl _) ?_; intro w1 hown1 hg1)
  have hB1 : Below w.heap.size w w1 := (Below.refl _ _).grown hg1 (Nat.le_refl _) (fun _ h => by cases h)
  rw [hmk.out] at hown1
  clear hg1 hmin
  go_loopw [25] (fun i wr => ∃ k : Nat, k ≤ m ∧ i = .int .i64 k ∧ wr.ownsRow w.heap.size 5 1 (.slice (some ⟨w.heap.size, 0, none⟩) m m) m (cellsB (mx a b c m k)) ∧ Below w.heap.size w wr)
    (fun i _ => m - (intOf i).toNat)
  case atStart => exact ⟨0, Nat.zero_le _, rfl, hown1, hB1⟩
  case round =>
    clear hown1 hB1
    obtain ⟨k, hk, rfl, hown, hB⟩ := hrel
    by_cases hlt : k < m
    · obtain ⟨ba, oa, rfl, hba, hca⟩ := RA.out k hlt
      obtain ⟨bb, ob, rfl, hbb, hcb⟩ := RB.out k hlt
      obtain ⟨bc, oc, rfl, hbc, hcc⟩ := RC.out k hlt
      replace hca := (hB.cell (p := ⟨ba, oa + k, none⟩) hba).trans hca
      replace hcb := (hB.cell (p := ⟨bb, ob + k, none⟩) hbb).trans hcb
      replace hcc := (hB.cell (p := ⟨bc, oc + k, none⟩) hbc).trans hcc
      have hset : Hid ((wr.setCell ⟨w.heap.size, k, none⟩ (U8 (a.getD k 0#8 ^^^ b.getD k 0#8 ^^^ c.getD k 0#8))).ownsRow w.heap.size 5 1 (.slice (some ⟨w.heap.size, 0, none⟩) m m) m (cellsB (mx a b c m (k + 1)))) := by
        unfold Hid; rw [← hms.out k]; exact own_set hown _
      have hfz : wr.frozen? ⟨w.heap.size, k, none⟩ = false := by
        rcases hown.2 with ⟨e, _⟩ | ⟨g', c', cur, e, _, hg, _⟩
        · cases e
        · simp only [Value.slice.injEq, Option.some.injEq, Addr.mk.injEq, and_true] at e
          rw [e.1]
          exact BoxN.frozen (t := 5) (cs := cur) hg _
      have hcm := hown.cells (g := w.heap.size) rfl k (U8 ((mx a b c m k).getD k 0#8)) (by
        rw [cellsB_get, List.getD_eq_getElem?_getD, List.getElem?_eq_getElem (by rw [mx_len]; exact hlt)]; rfl)
      rw [Addr.add_lit, Nat.zero_add] at hcm
      have x1 := xor8 (a.getD k 0#8) (b.getD k 0#8)
      have x2 := xor8 (a.getD k 0#8 ^^^ b.getD k 0#8) (c.getD k 0#8)
      have hB2 := Lib.hid ((hB.setCell (p := ⟨w.heap.size, k, none⟩) (Nat.le_refl _) (U8 (a.getD k 0#8 ^^^ b.getD k 0#8 ^^^ c.getD k 0#8))).drew)
      have hset2 := Lib.hid (World.ownsRow.drew hset.out)
      have hd : decide ((k : Int) < m) = true := by simp; omega
      clear hown hB hset RA RB RC
      simp only [U8] at hca hcb hcc hcm hB2 hset2
      generalize a.getD k 0#8 ^^^ b.getD k 0#8 ^^^ c.getD k 0#8 = v at x2 hB2 hset2
      generalize a.getD k 0#8 ^^^ b.getD k 0#8 = u at x1 x2
      generalize a.getD k 0#8 = za at x1 hca
      generalize b.getD k 0#8 = zb at x1 hcb
      generalize c.getD k 0#8 = zc at x2 hcc
      generalize (mx a b c m k).getD k 0#8 = zm at hcm
      go_wp2_with fail
      go_region
      clear hca hcb hcc hcm
      go_wp2_with fail
      go_roundw
      case rel => exact ⟨k + 1, by omega, by go_num, hset2.out, hB2.out⟩
      case measure => simp [intOf]; omega
    · obtain rfl : k = m := by omega
      have him := isB_of_own hown
      clear hown RA RB RC hms hmk
      go_wp2_with fail
      have HMs : Hid (∀ s : Wd (Gr wr), Calls Try.prog 14 #[.slice (some ⟨w.heap.size, 0, none⟩) k k] s.val fun e w' => e = .returned (U32 sm) ∧ Below s.val.heap.size s.val w') := fun s => HM.out _ _ _ (him.keep s.ok)
      have HAs : Hid (∀ s : Wd (Gr wr), _) := fun s => HSA.out s.val (hB.trans (Below.mono s.ok hB.size))
      have HBs : Hid (∀ s : Wd (Gr wr), _) := fun s => HSB.out s.val (hB.trans (Below.mono s.ok hB.size))
      have HCs : Hid (∀ s : Wd (Gr wr), _) := fun s => HSC.out s.val (hB.trans (Below.mono s.ok hB.size))
      have hS : Hid (∀ W W' : World, Gr wr W → Below W.heap.size W W' → Gr wr W') := Gr.close
      haveI : Nonempty (Wd (Gr wr)) := ⟨⟨wr, Below.refl _ _⟩⟩
      refine wp_region_cls (Gr wr) (by kernel_rfl) (by kernel_rfl) (Gr.start wr) ?_
      repeat (go_big_quiet_step (first
          | (go_at_call 14; exact Calls.cls hS.out (HMs.out _))
          | (go_at_call 14; exact Calls.cls hS.out (HAs.out _))
          | (go_at_call 14; exact Calls.cls hS.out (HBs.out _))
          | (go_at_call 14; exact Calls.cls hS.out (HCs.out _))))
      refine wpQuiet_nil ?_
      intro _ hw'
      obtain ⟨s0, rfl⟩ := hw'
      have hR := hB.trans (Below.mono s0.ok hB.size)
      generalize s0.val = v1 at hR ⊢
      clear HMs HAs HBs HCs hS this him HM hB
      by_cases hg : at' < 0 ∨ at' ≥ 8 * (k : Int)
      · have hp : (decide (at' < 0) = true) ∨ (decide (at' < 0) = false ∧ decide (8 * (k : Int) ≤ at') = true) := by
          simp only [decide_eq_true_eq, decide_eq_false_iff_not]; omega
        clear hg
        rcases hp with h2 | ⟨h2, h3⟩
        all_goals
          go_wp2_with fail
          (with_reducible refine (HW.out _).mono ?_); rintro e w6 ⟨rfl, hb⟩
          replace hR := hR.trans (hb.mono hR.size)
          clear hb
          go_wp2_with fail
          go_ret
          exact ⟨rfl, hR⟩
      · obtain ⟨p, rfl⟩ : ∃ p : Nat, at' = p := ⟨at'.toNat, by omega⟩
        have hpk : p < 8 * k := by omega
        have hd2 : decide ((p : Int) < 0) = false := by simp
        have hd3 : decide (8 * (k : Int) ≤ p) = false := by simp; omega
        have HF' := Lib.hid (HF.out p hpk)
        obtain ⟨sf, hne, hsf⟩ := HSF.out p hpk
        have HSf := Lib.hid hsf
        have q3 : ((sf.toNat : Int) == (sx.toNat : Int)) = false := by rw [beq_bv, decide_eq_false hne]
        clear HF HSF hsf hg hne
        have q4 : ((sf.toNat : Int) != (sx.toNat : Int)) = true := by rw [bne, q3]; rfl
        have HFl : Hid (∀ W, Below v1.heap.size v1 W → _) := fun W h => HF'.out W (KA.out W (hR.trans (h.mono hR.size)))
        have HSA' : Hid (∀ W, Below v1.heap.size v1 W → _) := fun W h => HSA.out W (hR.trans (h.mono hR.size))
        have hRz := hR.size
        go_wp2_with fail
        go_region_with (first
          | (go_at_call 12; (with_reducible refine (HFl.out _ ?_).mono ?_); (first | assumption | exact Aw.bd _ | exact Aw.ba (by assumption) _ | exact Aw.ba (Aw.bd _) _); rintro e v ⟨B2, c2, rfl, hi2, -, hb⟩; have hW := Aw.bt (W := v1) (by (first | assumption | exact Aw.bd _ | exact Aw.ba (by assumption) _ | exact Aw.ba (Aw.bd _) _)) hb)
          | (go_at_call 14; (with_reducible refine (HSA'.out _ ?_).mono ?_); (first | assumption | exact Aw.bd _ | exact Aw.ba (by assumption) _ | exact Aw.ba (Aw.bd _) _); rintro e v ⟨rfl, hb⟩; have hW := Aw.bt (W := v1) (by (first | assumption | exact Aw.bd _ | exact Aw.ba (by assumption) _ | exact Aw.ba (Aw.bd _) _)) hb; (try replace hi2 := isB.keep hi2 hb))
          | (go_at_call 14; (with_reducible refine (HSf.out _ _ _ ?_).mono ?_); (first | assumption | (refine isB.keep (by assumption) ?_; assumption)); rintro e v ⟨rfl, hb⟩; have hW := Aw.bt (W := v1) (by (first | assumption | exact Aw.bd _ | exact Aw.ba (by assumption) _ | exact Aw.ba (Aw.bd _) _)) hb)
          | (go_at_call 9; (with_reducible refine (HW.out _).mono ?_); rintro e v ⟨rfl, hb⟩; have hW := Aw.bt (W := v1) (by (first | assumption | exact Aw.bd _ | exact Aw.ba (by assumption) _ | exact Aw.ba (Aw.bd _) _)) hb))
        all_goals
          rename_i v _ _
          have hF := Lib.hid (hR.trans (Below.mono hW hRz))
          clear hW
          go_wp2_with fail
          go_ret
          exact ⟨rfl, hF.out⟩
end Linear
end Go.Proofs.Ytjlnaihlndmlfab
