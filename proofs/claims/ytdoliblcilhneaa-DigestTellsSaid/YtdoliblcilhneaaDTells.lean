/- DigestTells returns true. -/
import Derived.Test.YtdoliblcilhneaaRef3
import Derived.Test.YtdoliblcilhneaaCls
import Derived.Test.YtdoliblcilhneaaInv
namespace Go.Proofs.Ytdoliblcilhneaa
open Go.RowKit Go.Joins

theorem str_n {A : Option Addr} {l : List (BitVec 8)} {W : World} {cap : Nat} (n : Nat) (hn : l.length = n) (S : ByteArray) (hS : bstr l = S) (h : isB A l W) :
    (convert 22 9 (.slice A n cap)).run Try.prog W = .ok (.string S) W := by subst hn hS; exact str_run cap h
theorem rparse_n (l : List (BitVec 8)) (S : ByteArray) (hS : bstr l = S) (hl : l.length ≤ 1048576) (x : BitVec 64) (k : Int) (hp : prs l = (x, k)) (W : World) :
    Calls Try.prog 13 #[.string S] W fun e w' => e = .returned (.tuple #[U64 x, .int .i64 k]) ∧ Below W.heap.size W w' := by
  subst hS
  refine (rparse_any l (by omega) W).mono ?_
  rintro e w' ⟨rfl, rfl⟩
  rw [hp]
  exact ⟨rfl, Below.refl _ _⟩
theorem rtext_n (d : BitVec 64) (S : ByteArray) (hS : bstr (txt d) = S) (W : World) :
    Calls Try.prog 22 #[U64 d] W fun e w' => e = .returned (.string S) ∧ Below W.heap.size W w' := by
  subst hS
  refine (rtext_any d W).mono ?_
  rintro e w' ⟨rfl, rfl⟩
  exact ⟨rfl, Below.refl _ _⟩
theorem quiet_below {P : Program} {f : FuncId} {args : Array Value} {w : World} {v : Value} (h : Calls P f args w fun e w' => e = .returned v ∧ w' = w) : Calls P f args w fun e w' => e = .returned v ∧ Below w.heap.size w w' :=
  h.mono fun _ _ ⟨h1, h2⟩ => ⟨h1, by rw [h2]; exact Below.refl _ _⟩
namespace DTells
/-- The frame at the last region. -/
def fr3 (A : Option Addr) (m ca : Nat) (s n o : BitVec 64) (t WS : ByteArray) (g12 : Nat) (x : BitVec 64) (e : Int) (r k F D P : BitVec 64) (S : ByteArray) (y x0 x1 x2 x3 x4 x5 x6 x7 x8 x9 x10 x11 x12 x13 x14 x15 x16 x17 x18 x19 x20 x21 x22 : Value) : Act :=
  { tmps := #[.slice A m ca, U64 s, I64 n, U64 o, .string t, undef, undef, undef, undef, undef, y, .string WS, .pointer (some ⟨g12, 0, none⟩), U64 x, .int .i64 e, U64 x, .int .i64 e, .slice A m ca, .int .i64 m, .bool false, .bool false,
      .string t, .int .i64 t.size, .bool false, .bool false, undef, .slice A m ca, .string WS, U64 s, I64 n, St s n, .slice A m ca, St r k, .tuple #[U64 x, .int .i64 e], .string t, .tuple #[U64 x, .int .i64 e], U64 x, .int .i64 e, .tuple #[U64 x, .int .i64 e], .string t,
      .tuple #[U64 x, .int .i64 e], U64 x, .int .i64 e, .pointer (some ⟨g12, 0, none⟩), U64 r, U64 s, .slice A m ca, U64 r, .bool false, .bool false, .pointer (some ⟨g12, 1, none⟩), I64 k, I64 n, .slice A m ca, .int .i64 m, I64 k,
      .bool false, .bool false, .bool false, St r k, U64 F, .pointer (some ⟨g12, 0, none⟩), U64 r, .pointer (some ⟨g12, 1, none⟩), I64 k, U64 F, .bool false, .bool false, .bool false, .slice A m ca, U64 D, .slice A m ca, U64 D, .bool false, .bool false, .bool false,
      U64 s, U64 o, U64 P, U64 s, U64 o, U64 P, .bool false, .bool false, .bool false, U64 s, .string S, U64 s, .string S, .bool false, .bool false, .bool false, U64 x, U64 x, .bool false, .bool false, .bool false, .int .i64 e, .int .i64 e, .bool false, .bool false, x0, x1, x2, x3, x4, x5, x6, x7, x8, x9, x10, x11, x12, x13, x14, x15, x16, x17, x18, x19, x20, x21, x22], defers := [] }
def SlB (w : World) (b : Bool) (x : Value) (l : List (BitVec 8)) : Prop := b = true → ∃ G c, x = .slice G 8 c ∧ isB G l w
theorem SlB.keep {w w' : World} {b : Bool} {x : Value} {l : List (BitVec 8)} (h : SlB w b x l) (hb : Below w.heap.size w w') : SlB w' b x l := fun hb2 => by
  obtain ⟨G, c, e, hi⟩ := h hb2
  exact ⟨G, c, e, hi.keep hb⟩
/-- What holds at each point of it. -/
def Iv3 (A : Option Addr) (m ca : Nat) (s n o : BitVec 64) (t WS : ByteArray) (g12 : Nat) (x : BitVec 64) (e : Int) (r k F D P : BitVec 64) (S : ByteArray) (bs : List (BitVec 8)) (BS : ByteArray) (q : Bool) (W0 : World) (L : Array Bool) (a : Act) (w : World) : Prop :=
  ∃ (b0 b1 b2 b3 b4 b5 b6 b7 b8 b9 b10 b11 b12 b13 b14 b15 b16 b17 b18 b19 b20 b21 b22 b23 : Bool) (y x0 x1 x2 x3 x4 x5 x6 x7 x8 x9 x10 x11 x12 x13 x14 x15 x16 x17 x18 x19 x20 x21 x22 : Value), L = #[b0, b1, b2, b3, b4, b5, b6, b7, b8, b9, b10, b11, b12, b13, b14, b15, b16, b17, b18, b19, b20, b21, b22, b23] ∧ a = fr3 A m ca s n o t WS g12 x e r k F D P S y x0 x1 x2 x3 x4 x5 x6 x7 x8 x9 x10 x11 x12 x13 x14 x15 x16 x17 x18 x19 x20 x21 x22 ∧ Below W0.heap.size W0 w ∧
    (b0 = true → x0 = U64 s) ∧ SlB w b1 x1 bs ∧ (b2 = true → x2 = .string BS) ∧ (b3 = true → x3 = U64 s) ∧ SlB w b4 x4 bs ∧ (b5 = true → x5 = .string BS) ∧ (b6 = true → x6 = .bool true) ∧ (b7 = true → x7 = .bool true) ∧
    (b8 = true → x8 = .slice A m ca) ∧ (b9 = true → x9 = .string WS) ∧ (b10 = true → x10 = .string WS) ∧ (b11 = true → x11 = .bool true) ∧ (b12 = true → x12 = .bool true) ∧ (b13 = true → x13 = .bool true) ∧ (b14 = true → x14 = .int .i64 e) ∧ (b15 = true → x15 = .bool q) ∧
    (b16 = true → x16 = .int .i64 e) ∧ (b17 = true → x17 = .bool q) ∧ (b18 = true → x18 = .bool true) ∧ (b19 = true → x19 = .bool true) ∧ (b20 = true → x20 = .bool true) ∧ (b21 = true → x21 = .bool true) ∧ (b22 = true → x22 = .bool true) ∧ (b23 = true → y = .bool true)


set_option maxRecDepth 100000 in
set_option maxHeartbeats 4000000 in
theorem walk (A : Option Addr) (ca : Nat) (l : List (BitVec 8)) (s n o : Int) (t : ByteArray) (w : World) (hda : Data w A ca l) (hs0 : 0 ≤ s) (hs1 : s ≤ 18446744073709551615) (hn0 : -9223372036854775808 ≤ n) (hn1 : n ≤ 9223372036854775807) (ho0 : 0 ≤ o) (ho1 : o ≤ 18446744073709551615) (ht : t.size ≤ maxLen) :
    Calls Try.prog 3 #[.slice A l.length ca, .int .u64 s, .int .i64 n, .int .u64 o, .string t] w fun e w' => e = .returned (.bool true) ∧ Below w.heap.size w w' := by
  obtain ⟨s, rfl⟩ := int_bv (n := 64) hs0 (by omega)
  obtain ⟨o, rfl⟩ := int_bv (n := 64) ho0 (by omega)
  obtain ⟨n, rfl⟩ := int_bvs hn0 hn1
  have HW : Hid (∀ W : World, _) := fun W => Aw.walk W
  have hcap := hda.cap
  have hlc := hda.len
  unfold maxLen at ht
  obtain ⟨m, hm⟩ : ∃ m, l.length = m := ⟨_, rfl⟩
  rw [hm] at hlc ⊢
  by_cases hg : m > 300 ∨ t.size > 100
  · have hp : (decide ((300 : Int) < m) = true) ∨ (decide ((300 : Int) < m) = false ∧ decide ((100 : Int) < t.size) = true) := by
      simp only [decide_eq_true_eq, decide_eq_false_iff_not]; omega
    clear hda hg hm
    rcases hp with h1 | ⟨h1, h2⟩
    all_goals
      go_enter Try.func3, Try.ntmps3
      go_wp2_with fail
      (with_reducible refine (HW.out _).mono ?_); rintro e w1 ⟨rfl, hb⟩
      go_wp2_with fail
      go_ret
      exact ⟨rfl, hb⟩
  · have h1 : decide ((300 : Int) < m) = false := by simp; omega
    have h2 : decide ((100 : Int) < t.size) = false := by simp; omega
    have hm3 : m ≤ 300 := by omega
    obtain ⟨tl, htl⟩ := str_bstr t
    have htl2 : tl.length ≤ 1048576 := by rw [← bstr_size, ← htl]; omega
    obtain ⟨r, hr⟩ : ∃ r, ad s l = r := ⟨_, rfl⟩
    obtain ⟨k, hk⟩ : ∃ k, n + BitVec.ofNat 64 m = k := ⟨_, rfl⟩
    obtain ⟨F, hF⟩ : ∃ F, fin r k = F := ⟨_, rfl⟩
    obtain ⟨D, hD⟩ : ∃ D, dg l = D := ⟨_, rfl⟩
    obtain ⟨P, hP⟩ : ∃ P, dg (bytes8 s ++ bytes8 o) = P := ⟨_, rfl⟩
    obtain ⟨S, hS⟩ : ∃ S, bstr (txt s) = S := ⟨_, rfl⟩
    obtain ⟨WS, hWS⟩ : ∃ S, bstr l = S := ⟨_, rfl⟩
    obtain ⟨BS, hBS⟩ : ∃ S, bstr (bytes8 s) = S := ⟨_, rfl⟩
    obtain ⟨x, e, hpe, hee⟩ : ∃ x e, prs tl = (x, e) ∧ (e = 0 ∨ e = 50) := by
      unfold prs
      split
      · exact ⟨_, _, rfl, .inl rfl⟩
      · exact ⟨_, _, rfl, .inr rfl⟩
    have Hee := Lib.hid hee
    clear hee
    have KA : Hid (∀ v, Below w.heap.size w v → isB A l v) := fun v h => hda.row.keep h
    have hcv0 := str_n (cap := ca) m hm WS hWS hda.row
    have HCV : Hid (∀ v, Below w.heap.size w v → (convert 22 9 (.slice A m ca)).run Try.prog v = .ok (.string WS) v) := fun v h => str_n (cap := ca) m hm WS hWS (KA.out v h)
    have HA : Hid (∀ W, isB A l W → _) := fun W h => add_n (cap := ca) m hm s n r k hr hk (by omega) W h
    have HP : Hid (∀ W : World, _) := fun W => parse_n tl t htl.symm x e hpe W
    have HRP : Hid (∀ W : World, _) := fun W => rparse_n tl t htl.symm htl2 x e hpe W
    have HRA : Hid (∀ W, isB A l W → Calls Try.prog 14 #[U64 s, .slice A m ca] W fun e w' => e = .returned (U64 r) ∧ Below W.heap.size W w') := fun W h => by
      have := quiet_below (radd_any A ca l (by omega) s W h)
      rw [hr, hm] at this; exact this
    have HF : Hid (∀ W : World, _) := fun W => fin_n r k F hF W
    have HRF : Hid (∀ W : World, Calls Try.prog 16 #[U64 r, I64 k] W fun e w' => e = .returned (U64 F) ∧ Below W.heap.size W w') := fun W => by
      have := quiet_below (rfin_any r k W)
      rw [hF] at this; exact this
    have HO : Hid (∀ W, isB A l W → _) := fun W h => of_n (cap := ca) m hm D hD (by omega) W h
    have HRO : Hid (∀ W, isB A l W → _) := fun W h => quiet_below (rof_n (cap := ca) m hm D hD (by omega) W h)
    have HPA : Hid (∀ W : World, Calls Try.prog 19 #[U64 s, U64 o] W fun e w' => e = .returned (U64 P) ∧ Below W.heap.size W w') := fun W => by
      have := pair_any s o W
      rw [hP] at this; exact this
    have HRPA : Hid (∀ W : World, _) := fun W => rpair_n s o P hP W
    have HT : Hid (∀ W : World, _) := fun W => text_n s S hS W
    have HRT : Hid (∀ W : World, _) := fun W => rtext_n s S hS W
    have HB : Hid (∀ W : World, Calls Try.prog 23 #[U64 s] W fun e w' => e = .returned (.slice (some ⟨W.heap.size, 0, none⟩) 8 8) ∧ isB (some ⟨W.heap.size, 0, none⟩) (bytes8 s) w' ∧ Below W.heap.size W w') := fun W =>
      (bytes_any s W).mono fun e w' ⟨h1, h2, h3⟩ => ⟨h1, isB_of_own h2, h3⟩
    have HRB : Hid (∀ W : World, Calls Try.prog 24 #[U64 s] W fun e w' => ∃ G c, e = .returned (.slice G 8 c) ∧ isB G (bytes8 s) w' ∧ Below W.heap.size W w') := fun W =>
      (rbytes_any s W).mono fun e w' ⟨G, c, h1, h2, h3⟩ => ⟨G, c, h1, isB_of_own h2, h3⟩
    have HCB : Hid (∀ (G : Option Addr) (c : Nat) (v : World), isB G (bytes8 s) v → (convert 22 9 (.slice G 8 c)).run Try.prog v = .ok (.string BS) v) := fun G c v h => str_n 8 (bytes8_len s) BS hBS h
    have hwk : wrap64 (n.toInt + (m : Int)) = k.toInt := by
      have h := wrap_int n (m : Int)
      rw [h, BitVec.ofInt_natCast, hk]
    have hwk2 : IntKind.i64.wrap (n.toInt + (m : Int)) = k.toInt := by
      rw [IntWalk.i64_left]; exact hwk
    have hz := zero_St
    generalize bytes8 s = bs at HB HRB HCB
    clear hda hm hg htl htl2 hr hk hF hD hP hS hWS hBS hpe
    go_enter Try.func3, Try.ntmps3
    go_wp2_with fail
    (with_reducible refine (HA.out _ (KA.out _ (Below.refl _ _))).mono ?_); rintro e' w1 ⟨rfl, hR⟩
    clear hcv0
    go_wp2_with fail
    have b12 := BoxN.new w1 26 #[U64 r, I64 k]
    have hbl := (Below.refl w1.heap.size w1).alloc (Nat.le_refl _) (.cells #[U64 r, I64 k] 26)
    replace hR := hR.trans (hbl.mono hR.size)
    clear hbl
    generalize w1.alloc (.cells #[U64 r, I64 k] 26) = W1 at b12 hR ⊢
    generalize w1.heap.size = g12 at b12 ⊢
    (with_reducible refine (HP.out _).mono ?_); rintro e' w2 ⟨rfl, hb⟩
    replace hR := hR.trans (hb.mono hR.size)
    replace b12 := b12.keep hb
    clear hb
    go_wp2_with fail
    (with_reducible refine (HRP.out _).mono ?_); rintro e' w3 ⟨rfl, hb⟩
    replace hR := hR.trans (hb.mono hR.size)
    replace b12 := b12.keep hb
    clear hb
    go_wp2_with fail
    have f0 : ∀ q : Wd (Gr w3), q.val.cell? ⟨g12, 0, none⟩ = some (U64 r) := Gr.cell (b12.cell 0) b12.lt
    have f1 : ∀ q : Wd (Gr w3), q.val.cell? ⟨g12, 1, none⟩ = some (I64 k) := Gr.cell (b12.cell 1) b12.lt
    have KQ : Hid (∀ q : Wd (Gr w3), isB A l q.val) := fun q => KA.out _ (hR.trans (Below.mono q.ok hR.size))
    have G1 : Hid (∀ q : Wd (Gr w3), _) := fun q => HRA.out q.val (KQ.out q)
    have G2 : Hid (∀ q : Wd (Gr w3), _) := fun q => HF.out q.val
    have G3 : Hid (∀ q : Wd (Gr w3), _) := fun q => HRF.out q.val
    have G4 : Hid (∀ q : Wd (Gr w3), _) := fun q => HO.out q.val (KQ.out q)
    have G5 : Hid (∀ q : Wd (Gr w3), _) := fun q => HRO.out q.val (KQ.out q)
    have G6 : Hid (∀ q : Wd (Gr w3), _) := fun q => HPA.out q.val
    have G7 : Hid (∀ q : Wd (Gr w3), _) := fun q => HRPA.out q.val
    have G8 : Hid (∀ q : Wd (Gr w3), _) := fun q => HT.out q.val
    have G9 : Hid (∀ q : Wd (Gr w3), _) := fun q => HRT.out q.val
    have hS : Hid (∀ W W' : World, Gr w3 W → Below W.heap.size W W' → Gr w3 W') := Gr.close
    haveI : Nonempty (Wd (Gr w3)) := ⟨⟨w3, Below.refl _ _⟩⟩
    clear KQ HRA HF HRF HO HRO HPA HRPA HT HRT HA HP HRP b12 h1 h2 hz
    refine wp_region_cls (Gr w3) (by kernel_rfl) (by kernel_rfl) (Gr.start w3) ?_
    repeat (go_big_quiet_step (first
        | (go_at_call 14; with_reducible exact Calls.cls hS.out (G1.out _))
        | (go_at_call 15; with_reducible exact Calls.cls hS.out (G2.out _))
        | (go_at_call 16; with_reducible exact Calls.cls hS.out (G3.out _))
        | (go_at_call 17; with_reducible exact Calls.cls hS.out (G4.out _))
        | (go_at_call 18; with_reducible exact Calls.cls hS.out (G5.out _))
        | (go_at_call 19; with_reducible exact Calls.cls hS.out (G6.out _))
        | (go_at_call 20; with_reducible exact Calls.cls hS.out (G7.out _))
        | (go_at_call 21; with_reducible exact Calls.cls hS.out (G8.out _))
        | (go_at_call 22; with_reducible exact Calls.cls hS.out (G9.out _))))
    refine wpQuiet_nil ?_
    intro _ hw'
    obtain ⟨s0, rfl⟩ := hw'
    replace hR := hR.trans (Below.mono s0.ok hR.size)
    generalize s0.val = v1 at hR ⊢
    clear f0 f1 G1 G2 G3 G4 G5 G6 G7 G8 G9 hS this hwk hwk2
    go_wp2_with fail
    have hRv := Lib.hid hR
    clear hR
    obtain ⟨q, hq⟩ : ∃ q, (e == 0) = q := ⟨_, rfl⟩
    have HQ := Lib.hid hq
    clear hq
    refine wp_region_inv (Inv := Iv3 A m ca s n o t WS g12 x e r k F D P S bs BS q v1) (by kernel_rfl) (down_of (by decide +kernel)) ?start ?size ?done ?step
    case start => exact ⟨false, false, false, false, false, false, false, false, false, false, false, false, false, false, false, false, false, false, false, false, false, false, false, false, .bool false, undef, undef, undef, undef, undef, undef, undef, undef, undef, undef, undef, undef, undef, undef, undef, undef, undef, undef, undef, undef, undef, undef, undef, rfl, rfl, (Below.refl _ _).drew, fun h => (by cases h), fun h => (by cases h), fun h => (by cases h), fun h => (by cases h), fun h => (by cases h), fun h => (by cases h), fun h => (by cases h), fun h => (by cases h), fun h => (by cases h), fun h => (by cases h), fun h => (by cases h), fun h => (by cases h), fun h => (by cases h), fun h => (by cases h), fun h => (by cases h), fun h => (by cases h), fun h => (by cases h), fun h => (by cases h), fun h => (by cases h), fun h => (by cases h), fun h => (by cases h), fun h => (by cases h), fun h => (by cases h), fun h => (by cases h)⟩
    case size =>
      rintro L a w ⟨b0, b1, b2, b3, b4, b5, b6, b7, b8, b9, b10, b11, b12, b13, b14, b15, b16, b17, b18, b19, b20, b21, b22, b23, y, x0, x1, x2, x3, x4, x5, x6, x7, x8, x9, x10, x11, x12, x13, x14, x15, x16, x17, x18, x19, x20, x21, x22, rfl, -⟩
      rfl
    case done =>
      rintro L a w' ⟨b0, b1, b2, b3, b4, b5, b6, b7, b8, b9, b10, b11, b12, b13, b14, b15, b16, b17, b18, b19, b20, b21, b22, b23, y, x0, x1, x2, x3, x4, x5, x6, x7, x8, x9, x10, x11, x12, x13, x14, x15, x16, x17, x18, x19, x20, x21, x22, rfl, rfl, hBW, -, -, -, -, -, -, -, -, -, -, -, -, -, -, -, -, -, -, -, -, -, -, -, h23⟩ hall
      obtain rfl := h23 (hall 23 (by decide))
      have hF := Lib.hid (hRv.out.trans (hBW.mono hRv.out.size))
      clear hall hBW
      unfold fr3
      go_wp2_with fail
      go_ret
      exact ⟨rfl, hF.out⟩
    case step =>
      rintro L a W i op ⟨b0, b1, b2, b3, b4, b5, b6, b7, b8, b9, b10, b11, b12, b13, b14, b15, b16, b17, b18, b19, b20, b21, b22, b23, y, x0, x1, x2, x3, x4, x5, x6, x7, x8, x9, x10, x11, x12, x13, x14, x15, x16, x17, x18, x19, x20, x21, x22, rfl, rfl, hBW, h0, h1, h2, h3, h4, h5, h6, h7, h8, h9, h10, h11, h12, h13, h14, h15, h16, h17, h18, h19, h20, h21, h22, h23⟩ ho hun hdep
      have hi : i < 24 := (Array.getElem?_eq_some_iff.1 ho).1
      have k0 := Lib.hid h0
      have k1 := Lib.hid h1
      have k2 := Lib.hid h2
      have k3 := Lib.hid h3
      have k4 := Lib.hid h4
      have k5 := Lib.hid h5
      have k6 := Lib.hid h6
      have k7 := Lib.hid h7
      have k8 := Lib.hid h8
      have k9 := Lib.hid h9
      have k10 := Lib.hid h10
      have k11 := Lib.hid h11
      have k12 := Lib.hid h12
      have k13 := Lib.hid h13
      have k14 := Lib.hid h14
      have k15 := Lib.hid h15
      have k16 := Lib.hid h16
      have k17 := Lib.hid h17
      have k18 := Lib.hid h18
      have k19 := Lib.hid h19
      have k20 := Lib.hid h20
      have k21 := Lib.hid h21
      have k22 := Lib.hid h22
      have k23 := Lib.hid h23
      have kB := Lib.hid hBW
      clear hBW
      rcases (by omega : i = 0 ∨ i = 1 ∨ i = 2 ∨ i = 3 ∨ i = 4 ∨ i = 5 ∨ i = 6 ∨ i = 7 ∨ i = 8 ∨ i = 9 ∨ i = 10 ∨ i = 11 ∨ i = 12 ∨ i = 13 ∨ i = 14 ∨ i = 15 ∨ i = 16 ∨ i = 17 ∨ i = 18 ∨ i = 19 ∨ i = 20 ∨ i = 21 ∨ i = 22 ∨ i = 23) with rfl | rfl | rfl | rfl | rfl | rfl | rfl | rfl | rfl | rfl | rfl | rfl | rfl | rfl | rfl | rfl | rfl | rfl | rfl | rfl | rfl | rfl | rfl | rfl
      · cases ho
        refine wpOp_run rfl rfl ?_
        clear hdep hun h0 h1 h2 h3 h4 h5 h6 h7 h8 h9 h10 h11 h12 h13 h14 h15 h16 h17 h18 h19 h20 h21 h22 h23
        unfold fr3
        go_simp
        exact ⟨true, b1, b2, b3, b4, b5, b6, b7, b8, b9, b10, b11, b12, b13, b14, b15, b16, b17, b18, b19, b20, b21, b22, b23, y, U64 s, x1, x2, x3, x4, x5, x6, x7, x8, x9, x10, x11, x12, x13, x14, x15, x16, x17, x18, x19, x20, x21, x22, rfl, rfl, kB.out, fun _ => rfl, k1.out, k2.out, k3.out, k4.out, k5.out, k6.out, k7.out, k8.out, k9.out, k10.out, k11.out, k12.out, k13.out, k14.out, k15.out, k16.out, k17.out, k18.out, k19.out, k20.out, k21.out, k22.out, k23.out⟩
      · cases ho
        have d0 : b0 = true := hdep ⟨0, .data⟩ (by simp) rfl
        obtain rfl := h0 d0
        clear d0
        refine wpOp_run rfl rfl ?_
        clear hdep hun h0 h1 h2 h3 h4 h5 h6 h7 h8 h9 h10 h11 h12 h13 h14 h15 h16 h17 h18 h19 h20 h21 h22 h23
        unfold fr3
        go_simp
        (with_reducible refine (HB.out _).mono ?_); rintro e' w' ⟨rfl, hi1, hb⟩
        exact ⟨b0, true, b2, b3, b4, b5, b6, b7, b8, b9, b10, b11, b12, b13, b14, b15, b16, b17, b18, b19, b20, b21, b22, b23, y, U64 s, .slice (some ⟨W.heap.size, 0, none⟩) 8 8, x2, x3, x4, x5, x6, x7, x8, x9, x10, x11, x12, x13, x14, x15, x16, x17, x18, x19, x20, x21, x22, rfl, rfl, kB.out.trans (hb.mono kB.out.size), fun _ => rfl, fun _ => ⟨_, _, rfl, hi1⟩, k2.out, k3.out, k4.out.keep hb, k5.out, k6.out, k7.out, k8.out, k9.out, k10.out, k11.out, k12.out, k13.out, k14.out, k15.out, k16.out, k17.out, k18.out, k19.out, k20.out, k21.out, k22.out, k23.out⟩
      · cases ho
        have d1 : b1 = true := hdep ⟨1, .data⟩ (by simp) rfl
        obtain ⟨G, c, rfl, hi1⟩ := h1 d1
        have hcv := HCB.out G c W hi1
        clear d1 hi1
        refine wpOp_run rfl rfl ?_
        clear hdep hun h0 h1 h2 h3 h4 h5 h6 h7 h8 h9 h10 h11 h12 h13 h14 h15 h16 h17 h18 h19 h20 h21 h22 h23
        unfold fr3
        go_simp
        exact ⟨b0, b1, true, b3, b4, b5, b6, b7, b8, b9, b10, b11, b12, b13, b14, b15, b16, b17, b18, b19, b20, b21, b22, b23, y, x0, .slice G 8 c, .string BS, x3, x4, x5, x6, x7, x8, x9, x10, x11, x12, x13, x14, x15, x16, x17, x18, x19, x20, x21, x22, rfl, rfl, kB.out, k0.out, k1.out, fun _ => rfl, k3.out, k4.out, k5.out, k6.out, k7.out, k8.out, k9.out, k10.out, k11.out, k12.out, k13.out, k14.out, k15.out, k16.out, k17.out, k18.out, k19.out, k20.out, k21.out, k22.out, k23.out⟩
      · cases ho
        refine wpOp_run rfl rfl ?_
        clear hdep hun h0 h1 h2 h3 h4 h5 h6 h7 h8 h9 h10 h11 h12 h13 h14 h15 h16 h17 h18 h19 h20 h21 h22 h23
        unfold fr3
        go_simp
        exact ⟨b0, b1, b2, true, b4, b5, b6, b7, b8, b9, b10, b11, b12, b13, b14, b15, b16, b17, b18, b19, b20, b21, b22, b23, y, x0, x1, x2, U64 s, x4, x5, x6, x7, x8, x9, x10, x11, x12, x13, x14, x15, x16, x17, x18, x19, x20, x21, x22, rfl, rfl, kB.out, k0.out, k1.out, k2.out, fun _ => rfl, k4.out, k5.out, k6.out, k7.out, k8.out, k9.out, k10.out, k11.out, k12.out, k13.out, k14.out, k15.out, k16.out, k17.out, k18.out, k19.out, k20.out, k21.out, k22.out, k23.out⟩
      · cases ho
        have d3 : b3 = true := hdep ⟨3, .data⟩ (by simp) rfl
        obtain rfl := h3 d3
        clear d3
        refine wpOp_run rfl rfl ?_
        clear hdep hun h0 h1 h2 h3 h4 h5 h6 h7 h8 h9 h10 h11 h12 h13 h14 h15 h16 h17 h18 h19 h20 h21 h22 h23
        unfold fr3
        go_simp
        (with_reducible refine (HRB.out _).mono ?_); rintro e' w' ⟨G, c, rfl, hi1, hb⟩
        exact ⟨b0, b1, b2, b3, true, b5, b6, b7, b8, b9, b10, b11, b12, b13, b14, b15, b16, b17, b18, b19, b20, b21, b22, b23, y, x0, x1, x2, U64 s, .slice G 8 c, x5, x6, x7, x8, x9, x10, x11, x12, x13, x14, x15, x16, x17, x18, x19, x20, x21, x22, rfl, rfl, kB.out.trans (hb.mono kB.out.size), k0.out, k1.out.keep hb, k2.out, fun _ => rfl, fun _ => ⟨_, _, rfl, hi1⟩, k5.out, k6.out, k7.out, k8.out, k9.out, k10.out, k11.out, k12.out, k13.out, k14.out, k15.out, k16.out, k17.out, k18.out, k19.out, k20.out, k21.out, k22.out, k23.out⟩
      · cases ho
        have d4 : b4 = true := hdep ⟨4, .data⟩ (by simp) rfl
        obtain ⟨G, c, rfl, hi1⟩ := h4 d4
        have hcv := HCB.out G c W hi1
        clear d4 hi1
        refine wpOp_run rfl rfl ?_
        clear hdep hun h0 h1 h2 h3 h4 h5 h6 h7 h8 h9 h10 h11 h12 h13 h14 h15 h16 h17 h18 h19 h20 h21 h22 h23
        unfold fr3
        go_simp
        exact ⟨b0, b1, b2, b3, b4, true, b6, b7, b8, b9, b10, b11, b12, b13, b14, b15, b16, b17, b18, b19, b20, b21, b22, b23, y, x0, x1, x2, x3, .slice G 8 c, .string BS, x6, x7, x8, x9, x10, x11, x12, x13, x14, x15, x16, x17, x18, x19, x20, x21, x22, rfl, rfl, kB.out, k0.out, k1.out, k2.out, k3.out, k4.out, fun _ => rfl, k6.out, k7.out, k8.out, k9.out, k10.out, k11.out, k12.out, k13.out, k14.out, k15.out, k16.out, k17.out, k18.out, k19.out, k20.out, k21.out, k22.out, k23.out⟩
      · cases ho
        have d2 : b2 = true := hdep ⟨2, .data⟩ (by simp) rfl
        obtain rfl := h2 d2
        clear d2
        have d5 : b5 = true := hdep ⟨5, .data⟩ (by simp) rfl
        obtain rfl := h5 d5
        clear d5
        refine wpOp_run rfl rfl ?_
        clear hdep hun h0 h1 h2 h3 h4 h5 h6 h7 h8 h9 h10 h11 h12 h13 h14 h15 h16 h17 h18 h19 h20 h21 h22 h23
        unfold fr3
        go_simp
        exact ⟨b0, b1, b2, b3, b4, b5, true, b7, b8, b9, b10, b11, b12, b13, b14, b15, b16, b17, b18, b19, b20, b21, b22, b23, y, x0, x1, .string BS, x3, x4, .string BS, .bool true, x7, x8, x9, x10, x11, x12, x13, x14, x15, x16, x17, x18, x19, x20, x21, x22, rfl, rfl, kB.out, k0.out, k1.out, fun _ => rfl, k3.out, k4.out, fun _ => rfl, fun _ => rfl, k7.out, k8.out, k9.out, k10.out, k11.out, k12.out, k13.out, k14.out, k15.out, k16.out, k17.out, k18.out, k19.out, k20.out, k21.out, k22.out, k23.out⟩
      · cases ho
        have d6 : b6 = true := hdep ⟨6, .data⟩ (by simp) rfl
        obtain rfl := h6 d6
        clear d6
        refine wpOp_run rfl rfl ?_
        clear hdep hun h0 h1 h2 h3 h4 h5 h6 h7 h8 h9 h10 h11 h12 h13 h14 h15 h16 h17 h18 h19 h20 h21 h22 h23
        unfold fr3
        go_simp
        exact ⟨b0, b1, b2, b3, b4, b5, b6, true, b8, b9, b10, b11, b12, b13, b14, b15, b16, b17, b18, b19, b20, b21, b22, b23, y, x0, x1, x2, x3, x4, x5, .bool true, .bool true, x8, x9, x10, x11, x12, x13, x14, x15, x16, x17, x18, x19, x20, x21, x22, rfl, rfl, kB.out, k0.out, k1.out, k2.out, k3.out, k4.out, k5.out, fun _ => rfl, fun _ => rfl, k8.out, k9.out, k10.out, k11.out, k12.out, k13.out, k14.out, k15.out, k16.out, k17.out, k18.out, k19.out, k20.out, k21.out, k22.out, k23.out⟩
      · cases ho
        have d7 : b7 = true := hdep ⟨7, .guard⟩ (by simp) rfl
        obtain rfl := h7 d7
        clear d7
        refine wpOp_guard rfl rfl ?_
        clear hdep hun h0 h1 h2 h3 h4 h5 h6 h7 h8 h9 h10 h11 h12 h13 h14 h15 h16 h17 h18 h19 h20 h21 h22 h23
        unfold fr3
        go_simp
        exact ⟨b0, b1, b2, b3, b4, b5, b6, b7, true, b9, b10, b11, b12, b13, b14, b15, b16, b17, b18, b19, b20, b21, b22, b23, y, x0, x1, x2, x3, x4, x5, x6, .bool true, .slice A m ca, x9, x10, x11, x12, x13, x14, x15, x16, x17, x18, x19, x20, x21, x22, rfl, rfl, kB.out, k0.out, k1.out, k2.out, k3.out, k4.out, k5.out, k6.out, fun _ => rfl, fun _ => rfl, k9.out, k10.out, k11.out, k12.out, k13.out, k14.out, k15.out, k16.out, k17.out, k18.out, k19.out, k20.out, k21.out, k22.out, k23.out⟩
      · cases ho
        have d8 : b8 = true := hdep ⟨8, .data⟩ (by simp) rfl
        obtain rfl := h8 d8
        clear d8
        have d7 : b7 = true := hdep ⟨7, .guard⟩ (by simp) rfl
        obtain rfl := h7 d7
        clear d7
        have hcv := HCV.out W (hRv.out.trans (kB.out.mono hRv.out.size))
        refine wpOp_guard rfl rfl ?_
        clear hdep hun h0 h1 h2 h3 h4 h5 h6 h7 h8 h9 h10 h11 h12 h13 h14 h15 h16 h17 h18 h19 h20 h21 h22 h23
        unfold fr3
        go_simp
        exact ⟨b0, b1, b2, b3, b4, b5, b6, b7, b8, true, b10, b11, b12, b13, b14, b15, b16, b17, b18, b19, b20, b21, b22, b23, y, x0, x1, x2, x3, x4, x5, x6, .bool true, .slice A m ca, .string WS, x10, x11, x12, x13, x14, x15, x16, x17, x18, x19, x20, x21, x22, rfl, rfl, kB.out, k0.out, k1.out, k2.out, k3.out, k4.out, k5.out, k6.out, fun _ => rfl, fun _ => rfl, fun _ => rfl, k10.out, k11.out, k12.out, k13.out, k14.out, k15.out, k16.out, k17.out, k18.out, k19.out, k20.out, k21.out, k22.out, k23.out⟩
      · cases ho
        have d7 : b7 = true := hdep ⟨7, .guard⟩ (by simp) rfl
        obtain rfl := h7 d7
        clear d7
        refine wpOp_guard rfl rfl ?_
        clear hdep hun h0 h1 h2 h3 h4 h5 h6 h7 h8 h9 h10 h11 h12 h13 h14 h15 h16 h17 h18 h19 h20 h21 h22 h23
        unfold fr3
        go_simp
        exact ⟨b0, b1, b2, b3, b4, b5, b6, b7, b8, b9, true, b11, b12, b13, b14, b15, b16, b17, b18, b19, b20, b21, b22, b23, y, x0, x1, x2, x3, x4, x5, x6, .bool true, x8, x9, .string WS, x11, x12, x13, x14, x15, x16, x17, x18, x19, x20, x21, x22, rfl, rfl, kB.out, k0.out, k1.out, k2.out, k3.out, k4.out, k5.out, k6.out, fun _ => rfl, k8.out, k9.out, fun _ => rfl, k11.out, k12.out, k13.out, k14.out, k15.out, k16.out, k17.out, k18.out, k19.out, k20.out, k21.out, k22.out, k23.out⟩
      · cases ho
        have d9 : b9 = true := hdep ⟨9, .data⟩ (by simp) rfl
        obtain rfl := h9 d9
        clear d9
        have d10 : b10 = true := hdep ⟨10, .data⟩ (by simp) rfl
        obtain rfl := h10 d10
        clear d10
        have d7 : b7 = true := hdep ⟨7, .guard⟩ (by simp) rfl
        obtain rfl := h7 d7
        clear d7
        refine wpOp_guard rfl rfl ?_
        clear hdep hun h0 h1 h2 h3 h4 h5 h6 h7 h8 h9 h10 h11 h12 h13 h14 h15 h16 h17 h18 h19 h20 h21 h22 h23
        unfold fr3
        go_simp
        exact ⟨b0, b1, b2, b3, b4, b5, b6, b7, b8, b9, b10, true, b12, b13, b14, b15, b16, b17, b18, b19, b20, b21, b22, b23, y, x0, x1, x2, x3, x4, x5, x6, .bool true, x8, .string WS, .string WS, .bool true, x12, x13, x14, x15, x16, x17, x18, x19, x20, x21, x22, rfl, rfl, kB.out, k0.out, k1.out, k2.out, k3.out, k4.out, k5.out, k6.out, fun _ => rfl, k8.out, fun _ => rfl, fun _ => rfl, fun _ => rfl, k12.out, k13.out, k14.out, k15.out, k16.out, k17.out, k18.out, k19.out, k20.out, k21.out, k22.out, k23.out⟩
      · cases ho
        have d7 : b7 = true := hdep ⟨7, .data⟩ (by simp) rfl
        obtain rfl := h7 d7
        clear d7
        have d11 : b11 = true := hdep ⟨11, .data⟩ (by simp) rfl
        obtain rfl := h11 d11
        clear d11
        refine wpOp_run rfl rfl ?_
        clear hdep hun h0 h1 h2 h3 h4 h5 h6 h7 h8 h9 h10 h11 h12 h13 h14 h15 h16 h17 h18 h19 h20 h21 h22 h23
        unfold fr3
        go_simp
        exact ⟨b0, b1, b2, b3, b4, b5, b6, b7, b8, b9, b10, b11, true, b13, b14, b15, b16, b17, b18, b19, b20, b21, b22, b23, y, x0, x1, x2, x3, x4, x5, x6, .bool true, x8, x9, x10, .bool true, .bool true, x13, x14, x15, x16, x17, x18, x19, x20, x21, x22, rfl, rfl, kB.out, k0.out, k1.out, k2.out, k3.out, k4.out, k5.out, k6.out, fun _ => rfl, k8.out, k9.out, k10.out, fun _ => rfl, fun _ => rfl, k13.out, k14.out, k15.out, k16.out, k17.out, k18.out, k19.out, k20.out, k21.out, k22.out, k23.out⟩
      · cases ho
        have d12 : b12 = true := hdep ⟨12, .data⟩ (by simp) rfl
        obtain rfl := h12 d12
        clear d12
        refine wpOp_run rfl rfl ?_
        clear hdep hun h0 h1 h2 h3 h4 h5 h6 h7 h8 h9 h10 h11 h12 h13 h14 h15 h16 h17 h18 h19 h20 h21 h22 h23
        unfold fr3
        go_simp
        exact ⟨b0, b1, b2, b3, b4, b5, b6, b7, b8, b9, b10, b11, b12, true, b14, b15, b16, b17, b18, b19, b20, b21, b22, b23, y, x0, x1, x2, x3, x4, x5, x6, x7, x8, x9, x10, x11, .bool true, .bool true, x14, x15, x16, x17, x18, x19, x20, x21, x22, rfl, rfl, kB.out, k0.out, k1.out, k2.out, k3.out, k4.out, k5.out, k6.out, k7.out, k8.out, k9.out, k10.out, k11.out, fun _ => rfl, fun _ => rfl, k14.out, k15.out, k16.out, k17.out, k18.out, k19.out, k20.out, k21.out, k22.out, k23.out⟩
      · cases ho
        have d13 : b13 = true := hdep ⟨13, .guard⟩ (by simp) rfl
        obtain rfl := h13 d13
        clear d13
        refine wpOp_guard rfl rfl ?_
        clear hdep hun h0 h1 h2 h3 h4 h5 h6 h7 h8 h9 h10 h11 h12 h13 h14 h15 h16 h17 h18 h19 h20 h21 h22 h23
        unfold fr3
        go_simp
        exact ⟨b0, b1, b2, b3, b4, b5, b6, b7, b8, b9, b10, b11, b12, b13, true, b15, b16, b17, b18, b19, b20, b21, b22, b23, y, x0, x1, x2, x3, x4, x5, x6, x7, x8, x9, x10, x11, x12, .bool true, .int .i64 e, x15, x16, x17, x18, x19, x20, x21, x22, rfl, rfl, kB.out, k0.out, k1.out, k2.out, k3.out, k4.out, k5.out, k6.out, k7.out, k8.out, k9.out, k10.out, k11.out, k12.out, fun _ => rfl, fun _ => rfl, k15.out, k16.out, k17.out, k18.out, k19.out, k20.out, k21.out, k22.out, k23.out⟩
      · cases ho
        have d14 : b14 = true := hdep ⟨14, .data⟩ (by simp) rfl
        obtain rfl := h14 d14
        clear d14
        have d13 : b13 = true := hdep ⟨13, .guard⟩ (by simp) rfl
        obtain rfl := h13 d13
        clear d13
        have hq := HQ.out
        refine wpOp_guard rfl rfl ?_
        clear hdep hun h0 h1 h2 h3 h4 h5 h6 h7 h8 h9 h10 h11 h12 h13 h14 h15 h16 h17 h18 h19 h20 h21 h22 h23
        unfold fr3
        go_simp
        exact ⟨b0, b1, b2, b3, b4, b5, b6, b7, b8, b9, b10, b11, b12, b13, b14, true, b16, b17, b18, b19, b20, b21, b22, b23, y, x0, x1, x2, x3, x4, x5, x6, x7, x8, x9, x10, x11, x12, .bool true, .int .i64 e, .bool q, x16, x17, x18, x19, x20, x21, x22, rfl, rfl, kB.out, k0.out, k1.out, k2.out, k3.out, k4.out, k5.out, k6.out, k7.out, k8.out, k9.out, k10.out, k11.out, k12.out, fun _ => rfl, fun _ => rfl, fun _ => rfl, k16.out, k17.out, k18.out, k19.out, k20.out, k21.out, k22.out, k23.out⟩
      · cases ho
        have d13 : b13 = true := hdep ⟨13, .guard⟩ (by simp) rfl
        obtain rfl := h13 d13
        clear d13
        refine wpOp_guard rfl rfl ?_
        clear hdep hun h0 h1 h2 h3 h4 h5 h6 h7 h8 h9 h10 h11 h12 h13 h14 h15 h16 h17 h18 h19 h20 h21 h22 h23
        unfold fr3
        go_simp
        exact ⟨b0, b1, b2, b3, b4, b5, b6, b7, b8, b9, b10, b11, b12, b13, b14, b15, true, b17, b18, b19, b20, b21, b22, b23, y, x0, x1, x2, x3, x4, x5, x6, x7, x8, x9, x10, x11, x12, .bool true, x14, x15, .int .i64 e, x17, x18, x19, x20, x21, x22, rfl, rfl, kB.out, k0.out, k1.out, k2.out, k3.out, k4.out, k5.out, k6.out, k7.out, k8.out, k9.out, k10.out, k11.out, k12.out, fun _ => rfl, k14.out, k15.out, fun _ => rfl, k17.out, k18.out, k19.out, k20.out, k21.out, k22.out, k23.out⟩
      · cases ho
        have d16 : b16 = true := hdep ⟨16, .data⟩ (by simp) rfl
        obtain rfl := h16 d16
        clear d16
        have d13 : b13 = true := hdep ⟨13, .guard⟩ (by simp) rfl
        obtain rfl := h13 d13
        clear d13
        have hq := HQ.out
        refine wpOp_guard rfl rfl ?_
        clear hdep hun h0 h1 h2 h3 h4 h5 h6 h7 h8 h9 h10 h11 h12 h13 h14 h15 h16 h17 h18 h19 h20 h21 h22 h23
        unfold fr3
        go_simp
        exact ⟨b0, b1, b2, b3, b4, b5, b6, b7, b8, b9, b10, b11, b12, b13, b14, b15, b16, true, b18, b19, b20, b21, b22, b23, y, x0, x1, x2, x3, x4, x5, x6, x7, x8, x9, x10, x11, x12, .bool true, x14, x15, .int .i64 e, .bool q, x18, x19, x20, x21, x22, rfl, rfl, kB.out, k0.out, k1.out, k2.out, k3.out, k4.out, k5.out, k6.out, k7.out, k8.out, k9.out, k10.out, k11.out, k12.out, fun _ => rfl, k14.out, k15.out, fun _ => rfl, fun _ => rfl, k18.out, k19.out, k20.out, k21.out, k22.out, k23.out⟩
      · cases ho
        have d15 : b15 = true := hdep ⟨15, .data⟩ (by simp) rfl
        obtain rfl := h15 d15
        clear d15
        have d17 : b17 = true := hdep ⟨17, .data⟩ (by simp) rfl
        obtain rfl := h17 d17
        clear d17
        have d13 : b13 = true := hdep ⟨13, .guard⟩ (by simp) rfl
        obtain rfl := h13 d13
        clear d13
        refine wpOp_guard rfl rfl ?_
        clear hdep hun h0 h1 h2 h3 h4 h5 h6 h7 h8 h9 h10 h11 h12 h13 h14 h15 h16 h17 h18 h19 h20 h21 h22 h23
        unfold fr3
        go_simp
        exact ⟨b0, b1, b2, b3, b4, b5, b6, b7, b8, b9, b10, b11, b12, b13, b14, b15, b16, b17, true, b19, b20, b21, b22, b23, y, x0, x1, x2, x3, x4, x5, x6, x7, x8, x9, x10, x11, x12, .bool true, x14, .bool q, x16, .bool q, .bool true, x19, x20, x21, x22, rfl, rfl, kB.out, k0.out, k1.out, k2.out, k3.out, k4.out, k5.out, k6.out, k7.out, k8.out, k9.out, k10.out, k11.out, k12.out, fun _ => rfl, k14.out, fun _ => rfl, k16.out, fun _ => rfl, fun _ => rfl, k19.out, k20.out, k21.out, k22.out, k23.out⟩
      · cases ho
        have d13 : b13 = true := hdep ⟨13, .data⟩ (by simp) rfl
        obtain rfl := h13 d13
        clear d13
        have d18 : b18 = true := hdep ⟨18, .data⟩ (by simp) rfl
        obtain rfl := h18 d18
        clear d18
        refine wpOp_run rfl rfl ?_
        clear hdep hun h0 h1 h2 h3 h4 h5 h6 h7 h8 h9 h10 h11 h12 h13 h14 h15 h16 h17 h18 h19 h20 h21 h22 h23
        unfold fr3
        go_simp
        exact ⟨b0, b1, b2, b3, b4, b5, b6, b7, b8, b9, b10, b11, b12, b13, b14, b15, b16, b17, b18, true, b20, b21, b22, b23, y, x0, x1, x2, x3, x4, x5, x6, x7, x8, x9, x10, x11, x12, .bool true, x14, x15, x16, x17, .bool true, .bool true, x20, x21, x22, rfl, rfl, kB.out, k0.out, k1.out, k2.out, k3.out, k4.out, k5.out, k6.out, k7.out, k8.out, k9.out, k10.out, k11.out, k12.out, fun _ => rfl, k14.out, k15.out, k16.out, k17.out, fun _ => rfl, fun _ => rfl, k20.out, k21.out, k22.out, k23.out⟩
      · cases ho
        have d19 : b19 = true := hdep ⟨19, .data⟩ (by simp) rfl
        obtain rfl := h19 d19
        clear d19
        refine wpOp_run rfl rfl ?_
        clear hdep hun h0 h1 h2 h3 h4 h5 h6 h7 h8 h9 h10 h11 h12 h13 h14 h15 h16 h17 h18 h19 h20 h21 h22 h23
        unfold fr3
        go_simp
        exact ⟨b0, b1, b2, b3, b4, b5, b6, b7, b8, b9, b10, b11, b12, b13, b14, b15, b16, b17, b18, b19, true, b21, b22, b23, y, x0, x1, x2, x3, x4, x5, x6, x7, x8, x9, x10, x11, x12, x13, x14, x15, x16, x17, x18, .bool true, .bool true, x21, x22, rfl, rfl, kB.out, k0.out, k1.out, k2.out, k3.out, k4.out, k5.out, k6.out, k7.out, k8.out, k9.out, k10.out, k11.out, k12.out, k13.out, k14.out, k15.out, k16.out, k17.out, k18.out, fun _ => rfl, fun _ => rfl, k21.out, k22.out, k23.out⟩
      · cases ho
        have d20 : b20 = true := hdep ⟨20, .guard⟩ (by simp) rfl
        obtain rfl := h20 d20
        clear d20
        refine wpOp_guard rfl rfl ?_
        clear hdep hun h0 h1 h2 h3 h4 h5 h6 h7 h8 h9 h10 h11 h12 h13 h14 h15 h16 h17 h18 h19 h20 h21 h22 h23
        unfold fr3
        go_simp
        (with_reducible refine (HW.out _).mono ?_); rintro e' w' ⟨rfl, hb⟩
        exact ⟨b0, b1, b2, b3, b4, b5, b6, b7, b8, b9, b10, b11, b12, b13, b14, b15, b16, b17, b18, b19, b20, true, b22, b23, y, x0, x1, x2, x3, x4, x5, x6, x7, x8, x9, x10, x11, x12, x13, x14, x15, x16, x17, x18, x19, .bool true, .bool true, x22, rfl, rfl, kB.out.trans (hb.mono kB.out.size), k0.out, k1.out.keep hb, k2.out, k3.out, k4.out.keep hb, k5.out, k6.out, k7.out, k8.out, k9.out, k10.out, k11.out, k12.out, k13.out, k14.out, k15.out, k16.out, k17.out, k18.out, k19.out, fun _ => rfl, fun _ => rfl, k22.out, k23.out⟩
      · cases ho
        have d20 : b20 = true := hdep ⟨20, .data⟩ (by simp) rfl
        obtain rfl := h20 d20
        clear d20
        have d21 : b21 = true := hdep ⟨21, .data⟩ (by simp) rfl
        obtain rfl := h21 d21
        clear d21
        refine wpOp_run rfl rfl ?_
        clear hdep hun h0 h1 h2 h3 h4 h5 h6 h7 h8 h9 h10 h11 h12 h13 h14 h15 h16 h17 h18 h19 h20 h21 h22 h23
        unfold fr3
        go_simp
        exact ⟨b0, b1, b2, b3, b4, b5, b6, b7, b8, b9, b10, b11, b12, b13, b14, b15, b16, b17, b18, b19, b20, b21, true, b23, y, x0, x1, x2, x3, x4, x5, x6, x7, x8, x9, x10, x11, x12, x13, x14, x15, x16, x17, x18, x19, .bool true, .bool true, .bool true, rfl, rfl, kB.out, k0.out, k1.out, k2.out, k3.out, k4.out, k5.out, k6.out, k7.out, k8.out, k9.out, k10.out, k11.out, k12.out, k13.out, k14.out, k15.out, k16.out, k17.out, k18.out, k19.out, fun _ => rfl, fun _ => rfl, fun _ => rfl, k23.out⟩
      · cases ho
        have d22 : b22 = true := hdep ⟨22, .data⟩ (by simp) rfl
        obtain rfl := h22 d22
        clear d22
        refine wpOp_run rfl rfl ?_
        clear hdep hun h0 h1 h2 h3 h4 h5 h6 h7 h8 h9 h10 h11 h12 h13 h14 h15 h16 h17 h18 h19 h20 h21 h22 h23
        unfold fr3
        go_simp
        exact ⟨b0, b1, b2, b3, b4, b5, b6, b7, b8, b9, b10, b11, b12, b13, b14, b15, b16, b17, b18, b19, b20, b21, b22, true, .bool true, x0, x1, x2, x3, x4, x5, x6, x7, x8, x9, x10, x11, x12, x13, x14, x15, x16, x17, x18, x19, x20, x21, .bool true, rfl, rfl, kB.out, k0.out, k1.out, k2.out, k3.out, k4.out, k5.out, k6.out, k7.out, k8.out, k9.out, k10.out, k11.out, k12.out, k13.out, k14.out, k15.out, k16.out, k17.out, k18.out, k19.out, k20.out, k21.out, fun _ => rfl, fun _ => rfl⟩
end DTells
end Go.Proofs.Ytdoliblcilhneaa
