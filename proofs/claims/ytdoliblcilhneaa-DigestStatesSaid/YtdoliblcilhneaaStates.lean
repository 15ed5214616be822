/- DigestStates returns true. -/
import Derived.Test.YtdoliblcilhneaaShare
import Derived.Test.YtdoliblcilhneaaCls
import Derived.Test.YtdoliblcilhneaaInv
namespace Go.Proofs.Ytdoliblcilhneaa
open Go.RowKit Go.Joins
namespace DStates
/-- The frame at the region that adds to both states. -/
def fr (A : Option Addr) (m ca : Nat) (s t n n' : BitVec 64) (u v : BitVec 8) (g6 g7 : Nat) (p q x0 x1 x2 x3 x4 x5 : Value) : Act :=
  { tmps := #[.slice A m ca, St s n, St t n', U8 u, U8 v, undef, .pointer (some ⟨g6, 0, none⟩), .pointer (some ⟨g7, 0, none⟩), undef, undef, .bool false, p, q,
      .slice A m ca, .int .i64 m, .bool false, undef, .pointer (some ⟨g6, 1, none⟩), I64 n, .pointer (some ⟨g7, 1, none⟩), x0, x1, x2, x3, x4, x5, undef, undef, undef, undef, undef, undef, undef, undef, undef, undef, undef, undef, undef, undef, undef, undef, undef, undef, undef, undef, undef, undef, undef, undef, undef, undef, undef, undef, undef, undef, undef, undef, undef, undef, undef, undef, undef, undef, undef, undef, undef, undef, undef, undef, undef], defers := [] }
def BoxP (W0 w : World) (b6 b8 : Bool) (p : Value) (X K : BitVec 64) : Prop :=
  b6 = true → ∃ g c1 c2, p = .pointer (some ⟨g, 0, none⟩) ∧ W0.heap.size ≤ g ∧ BoxN w g 26 #[c1, c2] ∧ (b8 = true → c1 = U64 X ∧ c2 = I64 K)
theorem BoxP.keep {W0 w w' : World} {b6 b8 : Bool} {p : Value} {X K : BitVec 64} (h : BoxP W0 w b6 b8 p X K) (hb : Below w.heap.size w w') : BoxP W0 w' b6 b8 p X K := fun h6 => by
  obtain ⟨g, c1, c2, e, hg, hx, hk⟩ := h h6
  exact ⟨g, c1, c2, e, hg, hx.keep hb, hk⟩
def Dif (b6 b7 : Bool) (p q : Value) : Prop := b6 = true → b7 = true → ∀ g h, p = .pointer (some ⟨g, 0, none⟩) → q = .pointer (some ⟨h, 0, none⟩) → g ≠ h
/-- What holds at each point of that region. -/
def Iv (A : Option Addr) (m ca : Nat) (s t n n' : BitVec 64) (u v : BitVec 8) (g6 g7 : Nat) (X Y K : BitVec 64) (W0 : World) (L : Array Bool) (a : Act) (w : World) : Prop :=
  ∃ (b0 b1 b2 b3 b4 b5 b6 b7 b8 b9 : Bool) (p q x0 x1 x2 x3 x4 x5 : Value), L = #[b0, b1, b2, b3, b4, b5, b6, b7, b8, b9] ∧ a = fr A m ca s t n n' u v g6 g7 p q x0 x1 x2 x3 x4 x5 ∧ Below W0.heap.size W0 w ∧
    (b0 = true → x0 = St s n) ∧ (b1 = true → x1 = .slice A m ca) ∧ (b2 = true → x2 = St X K) ∧ (b3 = true → x3 = St t n) ∧ (b4 = true → x4 = .slice A m ca) ∧ (b5 = true → x5 = St Y K) ∧
    BoxP W0 w b6 b8 p X K ∧ BoxP W0 w b7 b9 q Y K ∧ Dif b6 b7 p q ∧ (b8 = true → b6 = true) ∧ (b9 = true → b7 = true)




/-- The frame at the last region. -/
def fr2 (A : Option Addr) (m ca : Nat) (s t n n' : BitVec 64) (u v : BitVec 8) (g6 g7 g11 g12 : Nat) (X Y K Fs Ft FX FY : BitVec 64) (D : Bool) (y x0 x1 x2 x3 x4 x5 x6 x7 x8 x9 x10 x11 x12 x13 x14 x15 : Value) : Act :=
  { tmps := #[.slice A m ca, St s n, St t n', U8 u, U8 v, undef, .pointer (some ⟨g6, 0, none⟩), .pointer (some ⟨g7, 0, none⟩), undef, undef, y, .pointer (some ⟨g11, 0, none⟩), .pointer (some ⟨g12, 0, none⟩),
      .slice A m ca, .int .i64 m, .bool false, undef, .pointer (some ⟨g6, 1, none⟩), I64 n, .pointer (some ⟨g7, 1, none⟩), St s n, .slice A m ca, St X K, St t n, .slice A m ca, St Y K, St X K, St Y K, .bool D, St s n, St t n, .bool D, .bool false, .bool false,
      St s n, U64 Fs, St t n, U64 Ft, .bool D, St s n, St t n, .bool D, .bool false, .bool false, .bool false, St X K, U64 FX, St Y K, U64 FY, .bool D, St s n, St t n, .bool D, .bool false, .bool false, x0, x1, x2, x3, x4, x5, x6, x7, x8, x9, x10, x11, x12, x13, x14, x15], defers := [] }
def SlP (w : World) (b : Bool) (x : Value) (z : BitVec 8) : Prop := b = true → ∃ g, x = .slice (some ⟨g, 0, none⟩) 1 1 ∧ isB (some ⟨g, 0, none⟩) [z] w
theorem SlP.keep {w w' : World} {b : Bool} {x : Value} {z : BitVec 8} (h : SlP w b x z) (hb : Below w.heap.size w w') : SlP w' b x z := fun hb2 => by
  obtain ⟨g, e, hi⟩ := h hb2
  exact ⟨g, e, hi.keep hb⟩
/-- What holds at each point of it. -/
def Iv2 (A : Option Addr) (m ca : Nat) (s t n n' : BitVec 64) (u v : BitVec 8) (g6 g7 g11 g12 : Nat) (X Y K Fs Ft FX FY : BitVec 64) (D : Bool) (su sv K1 : BitVec 64) (E : Bool) (W0 : World) (L : Array Bool) (a : Act) (w : World) : Prop :=
  ∃ (b0 b1 b2 b3 b4 b5 b6 b7 b8 b9 b10 b11 b12 b13 b14 b15 b16 : Bool) (y x0 x1 x2 x3 x4 x5 x6 x7 x8 x9 x10 x11 x12 x13 x14 x15 : Value), L = #[b0, b1, b2, b3, b4, b5, b6, b7, b8, b9, b10, b11, b12, b13, b14, b15, b16] ∧ a = fr2 A m ca s t n n' u v g6 g7 g11 g12 X Y K Fs Ft FX FY D y x0 x1 x2 x3 x4 x5 x6 x7 x8 x9 x10 x11 x12 x13 x14 x15 ∧ Below W0.heap.size W0 w ∧
    (b0 = true → x0 = St s n) ∧ (b1 = true → x1 = U8 u) ∧ SlP w b2 x2 u ∧ (b3 = true → x3 = St su K1) ∧ (b4 = true → x4 = St s n) ∧ (b5 = true → x5 = U8 v) ∧ SlP w b6 x6 v ∧ (b7 = true → x7 = St sv K1) ∧
    (b8 = true → x8 = .bool E) ∧ (b9 = true → x9 = U8 u) ∧ (b10 = true → x10 = U8 v) ∧ (b11 = true → x11 = .bool E) ∧ (b12 = true → x12 = .bool true) ∧ (b13 = true → x13 = .bool true) ∧ (b14 = true → x14 = .bool true) ∧ (b15 = true → x15 = .bool true) ∧ (b16 = true → y = .bool true)

set_option maxRecDepth 100000 in
set_option maxHeartbeats 4000000 in
theorem walk (A : Option Addr) (ca : Nat) (l : List (BitVec 8)) (s n t n' u v : Int) (w : World) (hda : Data w A ca l) (hs0 : 0 ≤ s) (hs1 : s ≤ 18446744073709551615) (hn0 : -9223372036854775808 ≤ n) (hn1 : n ≤ 9223372036854775807)
    (ht0 : 0 ≤ t) (ht1 : t ≤ 18446744073709551615) (hm0 : -9223372036854775808 ≤ n') (hm1 : n' ≤ 9223372036854775807) (hu0 : 0 ≤ u) (hu1 : u ≤ 255) (hv0 : 0 ≤ v) (hv1 : v ≤ 255) :
    Calls Try.prog 6 #[.slice A l.length ca, .agg #[.int .u64 s, .int .i64 n], .agg #[.int .u64 t, .int .i64 n'], .int .u8 u, .int .u8 v] w fun e w' => e = .returned (.bool true) ∧ Below w.heap.size w w' := by
  obtain ⟨s, rfl⟩ := int_bv (n := 64) hs0 (by omega)
  obtain ⟨t, rfl⟩ := int_bv (n := 64) ht0 (by omega)
  obtain ⟨n, rfl⟩ := int_bvs hn0 hn1
  obtain ⟨n', rfl⟩ := int_bvs hm0 hm1
  obtain ⟨u, rfl⟩ := int_bv (n := 8) hu0 (by omega)
  obtain ⟨v, rfl⟩ := int_bv (n := 8) hv0 (by omega)
  have HW : Hid (∀ W : World, _) := fun W => Aw.walk W
  have hcap := hda.cap
  have hlc := hda.len
  obtain ⟨m, hm⟩ : ∃ m, l.length = m := ⟨_, rfl⟩
  rw [hm] at hlc ⊢
  by_cases hg : m > 300
  · have h1 : decide ((300 : Int) < m) = true := by simp; omega
    have hB0 := Lib.hid (((Below.refl w.heap.size w).alloc (Nat.le_refl _) (.cells #[U64 s, I64 n] 26)).alloc (by simp) (.cells #[U64 t, I64 n'] 26))
    clear hda hg hm
    go_enter Try.func6, Try.ntmps6
    go_wp2_with fail
    (with_reducible refine (HW.out _).mono ?_); rintro e w1 ⟨rfl, hb⟩
    go_wp2_with fail
    go_ret
    exact ⟨rfl, hB0.out.trans (hb.mono hB0.out.size)⟩
  · have h1 : decide ((300 : Int) < m) = false := by simp; omega
    have hm3 : m ≤ 300 := by omega
    have KA : Hid (∀ v, Below w.heap.size w v → isB A l v) := fun v h => hda.row.keep h
    have b6 : BoxN ((w.alloc (.cells #[U64 s, I64 n] 26)).alloc (.cells #[U64 t, I64 n] 26)) w.heap.size 26 #[U64 s, I64 n] := (BoxN.new w _ _).alloc _
    have b7 : BoxN ((w.alloc (.cells #[U64 s, I64 n] 26)).alloc (.cells #[U64 t, I64 n] 26)) (w.heap.size + 1) 26 #[U64 t, I64 n] := by
      have h := BoxN.new (w.alloc (.cells #[U64 s, I64 n] 26)) 26 #[U64 t, I64 n]
      rwa [World.size_alloc] at h
    have hB : Below w.heap.size w ((w.alloc (.cells #[U64 s, I64 n] 26)).alloc (.cells #[U64 t, I64 n] 26)) := ((Below.refl _ w).alloc (Nat.le_refl _) _).alloc (by simp) _
    obtain ⟨X, hX⟩ : ∃ X, ad s l = X := ⟨_, rfl⟩
    obtain ⟨Y, hY⟩ : ∃ Y, ad t l = Y := ⟨_, rfl⟩
    obtain ⟨K, hK⟩ : ∃ K, n + BitVec.ofNat 64 m = K := ⟨_, rfl⟩
    have HX : Hid (∀ W, isB A l W → _) := fun W h => add_n (cap := ca) m hm s n X K hX hK (by omega) W h
    have HY : Hid (∀ W, isB A l W → _) := fun W h => add_n (cap := ca) m hm t n Y K hY hK (by omega) W h
    have hz := zero_St
    obtain ⟨Fs, hFs⟩ : ∃ F, fin s n = F := ⟨_, rfl⟩
    obtain ⟨Ft, hFt⟩ : ∃ F, fin t n = F := ⟨_, rfl⟩
    obtain ⟨FX, hFX⟩ : ∃ F, fin X K = F := ⟨_, rfl⟩
    obtain ⟨FY, hFY⟩ : ∃ F, fin Y K = F := ⟨_, rfl⟩
    have q1 : ((X.toNat : Int) == (Y.toNat : Int)) = decide (s = t) := by rw [beq_bv, ← hX, ← hY]; exact decide_eq_decide.2 (ad_inj l)
    have q2 : ((s.toNat : Int) == (t.toNat : Int)) = decide (s = t) := beq_bv s t
    have q3 : ((Fs.toNat : Int) == (Ft.toNat : Int)) = decide (s = t) := by rw [beq_bv, ← hFs, ← hFt]; exact decide_eq_decide.2 (fin_inj n)
    have q4 : ((FX.toNat : Int) == (FY.toNat : Int)) = decide (s = t) := by rw [beq_bv, ← hFX, ← hFY, ← hX, ← hY]; exact decide_eq_decide.2 ((fin_inj K).trans (ad_inj l))
    have HFs : Hid (∀ W : World, _) := fun W => fin_n s n Fs hFs W
    have HFt : Hid (∀ W : World, _) := fun W => fin_n t n Ft hFt W
    have HFX : Hid (∀ W : World, _) := fun W => fin_n X K FX hFX W
    have HFY : Hid (∀ W : World, _) := fun W => fin_n Y K FY hFY W
    have p2 : (((addB s u).toNat : Int) == ((addB s v).toNat : Int)) = decide (u = v) := by
      rw [beq_bv]; exact decide_eq_decide.2 (addB_inj2 s)
    have p3 : ((u.toNat : Int) == (v.toNat : Int)) = decide (u = v) := beq_bv u v
    obtain ⟨D, hD⟩ : ∃ D, decide (s = t) = D := ⟨_, rfl⟩
    rw [hD] at q1 q2 q3 q4
    obtain ⟨E, hE⟩ : ∃ E, decide (u = v) = E := ⟨_, rfl⟩
    rw [hE] at p2 p3
    obtain ⟨K1, hK1⟩ : ∃ K, n + BitVec.ofNat 64 1 = K := ⟨_, rfl⟩
    have HU : Hid (∀ (g : Nat) (W : World), isB (some ⟨g, 0, none⟩) [u] W → _) := fun g W h => add_n (cap := 1) 1 rfl s n (addB s u) K1 rfl hK1 (by decide) W h
    have HV : Hid (∀ (g : Nat) (W : World), isB (some ⟨g, 0, none⟩) [v] W → _) := fun g W h => add_n (cap := 1) 1 rfl s n (addB s v) K1 rfl hK1 (by decide) W h
    generalize addB s u = su at p2 HU
    generalize addB s v = sv at p2 HV
    have Q1 := Lib.hid q1
    have Q2 := Lib.hid q2
    have Q3 := Lib.hid q3
    have Q4 := Lib.hid q4
    have P2 := Lib.hid p2
    have P3 := Lib.hid p3
    clear q1 q2 q3 q4 p2 p3 hX hY hK hFs hFt hFX hFY hD hE hK1 hm
    clear hg
    go_enter Try.func6, Try.ntmps6
    go_wp2_with fail
    generalize (w.alloc (.cells #[U64 s, I64 n] 26)).alloc (.cells #[U64 t, I64 n] 26) = W0 at b6 b7 hB ⊢
    have hB' := Lib.hid hB
    generalize w.heap.size + 1 = g7 at b7 ⊢
    generalize hg6 : w.heap.size = g6 at b6 ⊢
    refine wp_region_inv (Inv := Iv A m ca s t n n' u v g6 g7 X Y K W0) (by kernel_rfl) ?down ?start ?size ?done ?step
    case down => exact down_of (by decide +kernel)
    case start => exact ⟨false, false, false, false, false, false, false, false, false, false, undef, undef, undef, undef, undef, undef, undef, undef, rfl, rfl, (Below.refl _ _).drew, fun h => (by cases h), fun h => (by cases h), fun h => (by cases h), fun h => (by cases h), fun h => (by cases h), fun h => (by cases h), fun h => (by cases h), fun h => (by cases h), fun h => (by cases h), fun h => h, fun h => h⟩
    case size =>
      rintro L a w ⟨b0, b1, b2, b3, b4, b5, b6, b7, b8, b9, p, q, x0, x1, x2, x3, x4, x5, rfl, -⟩
      rfl
    case done =>
      rintro L a W ⟨b0, b1, b2, b3, b4, b5, b6', b7', b8, b9, p, q, x0, x1, x2, x3, x4, x5, rfl, rfl, hBW, h0, h1', h2, h3, h4, h5, hp, hq, hd, -, -⟩ hall
      have a0 : b0 = true := hall 0 (by decide)
      have a1 : b1 = true := hall 1 (by decide)
      have a2 : b2 = true := hall 2 (by decide)
      have a3 : b3 = true := hall 3 (by decide)
      have a4 : b4 = true := hall 4 (by decide)
      have a5 : b5 = true := hall 5 (by decide)
      have a6 : b6' = true := hall 6 (by decide)
      have a7 : b7' = true := hall 7 (by decide)
      have a8 : b8 = true := hall 8 (by decide)
      have a9 : b9 = true := hall 9 (by decide)
      obtain rfl := h0 a0
      obtain rfl := h1' a1
      obtain rfl := h2 a2
      obtain rfl := h3 a3
      obtain rfl := h4 a4
      obtain rfl := h5 a5
      obtain ⟨g11, y1, y2, rfl, -, b11, hk⟩ := hp a6
      obtain ⟨rfl, rfl⟩ := hk a8
      obtain ⟨g12, y1, y2, rfl, -, b12, hk⟩ := hq a7
      obtain ⟨rfl, rfl⟩ := hk a9
      replace b6 := b6.keep hBW
      replace b7 := b7.keep hBW
      have hR := hB'.out.trans (hBW.mono hB'.out.size)
      clear hall a0 a1 a2 a3 a4 a5 a6 a7 a8 a9 hp hq hd h0 h1' h2 h3 h4 h5 hBW hB hB' HX HY KA hz hda
      unfold fr
      go_wp2_with fail
      have q1 := Q1.out
      have q2 := Q2.out
      have q3 := Q3.out
      have q4 := Q4.out
      have cell2 : ∀ (g : Nat) (x y : BitVec 64), BoxN W g 26 #[U64 x, I64 y] → (∀ q : Wd (Gr W), q.val.cell? ⟨g, 0, none⟩ = some (U64 x)) ∧ (∀ q : Wd (Gr W), q.val.cell? ⟨g, 1, none⟩ = some (I64 y)) := fun g x y h =>
        ⟨Gr.cell (h.cell 0) h.lt, Gr.cell (h.cell 1) h.lt⟩
      obtain ⟨f0, f1⟩ := cell2 _ _ _ b6
      obtain ⟨f2, f3⟩ := cell2 _ _ _ b7
      obtain ⟨f4, f5⟩ := cell2 _ _ _ b11
      obtain ⟨f6, f7⟩ := cell2 _ _ _ b12
      have hite : ∀ W : World, (if D = false then Result.ok (Value.bool false) W else Result.ok (Value.bool true) W) = Result.ok (Value.bool D) W := fun W => by cases D <;> rfl
      have G1 : Hid (∀ q : Wd (Gr W), _) := fun q => HFs.out q.val
      have G2 : Hid (∀ q : Wd (Gr W), _) := fun q => HFt.out q.val
      have G3 : Hid (∀ q : Wd (Gr W), _) := fun q => HFX.out q.val
      have G4 : Hid (∀ q : Wd (Gr W), _) := fun q => HFY.out q.val
      have B6 := Lib.hid b6
      have hS : Hid (∀ W1 W' : World, Gr W W1 → Below W1.heap.size W1 W' → Gr W W') := Gr.close
      haveI : Nonempty (Wd (Gr W)) := ⟨⟨W, Below.refl _ _⟩⟩
      clear cell2 b6 b7 b11 b12 HFs HFt HFX HFY Q1 Q2 Q3 Q4 hcap hlc h1
      refine wp_region_cls (Gr W) (by kernel_rfl) (by kernel_rfl) (Gr.start W) ?_
      repeat (go_big_quiet_step (first
          | (go_at_call 15; with_reducible exact Calls.cls hS.out (G1.out _))
          | (go_at_call 15; with_reducible exact Calls.cls hS.out (G2.out _))
          | (go_at_call 15; with_reducible exact Calls.cls hS.out (G3.out _))
          | (go_at_call 15; with_reducible exact Calls.cls hS.out (G4.out _))))
      refine wpQuiet_nil ?_
      intro _ hw'
      obtain ⟨s0, rfl⟩ := hw'
      replace hR := hR.trans (Below.mono s0.ok hR.size)
      have b6 := B6.out.keep s0.ok
      generalize s0.val = v1 at hR b6 ⊢
      clear f0 f1 f2 f3 f4 f5 f6 f7 G1 G2 G3 G4 B6 hS this q1 q2 q3 q4 hite
      go_wp2_with fail
      have hRv := Lib.hid hR
      have bb6 := Lib.hid b6
      clear hR b6
      refine wp_region_inv (Inv := Iv2 A m ca s t n n' u v g6 g7 g11 g12 X Y K Fs Ft FX FY D su sv K1 E v1) (by kernel_rfl) (down_of (by decide +kernel)) ?start2 ?size2 ?done2 ?step2
      case start2 => exact ⟨false, false, false, false, false, false, false, false, false, false, false, false, false, false, false, false, false, .bool false, undef, undef, undef, undef, undef, undef, undef, undef, undef, undef, undef, undef, undef, undef, undef, undef, rfl, rfl, (Below.refl _ _).drew, fun h => (by cases h), fun h => (by cases h), fun h => (by cases h), fun h => (by cases h), fun h => (by cases h), fun h => (by cases h), fun h => (by cases h), fun h => (by cases h), fun h => (by cases h), fun h => (by cases h), fun h => (by cases h), fun h => (by cases h), fun h => (by cases h), fun h => (by cases h), fun h => (by cases h), fun h => (by cases h), fun h => (by cases h)⟩
      case size2 =>
        rintro L a w ⟨b0, b1, b2, b3, b4, b5, b6, b7, b8, b9, b10, b11, b12, b13, b14, b15, b16, y, x0, x1, x2, x3, x4, x5, x6, x7, x8, x9, x10, x11, x12, x13, x14, x15, rfl, -⟩
        rfl
      case done2 =>
        rintro L a w' ⟨b0, b1, b2, b3, b4, b5, b6, b7, b8, b9, b10, b11, b12, b13, b14, b15, b16, y, x0, x1, x2, x3, x4, x5, x6, x7, x8, x9, x10, x11, x12, x13, x14, x15, rfl, rfl, hBW, -, -, -, -, -, -, -, -, -, -, -, -, -, -, -, -, h16⟩ hall
        obtain rfl := h16 (hall 16 (by decide))
        have hF := Lib.hid (hRv.out.trans (hBW.mono hRv.out.size))
        clear hall hBW
        unfold fr2
        go_wp2_with fail
        go_ret
        exact ⟨rfl, by rw [← hg6]; exact hF.out⟩
      case step2 =>
        rintro L a W i o ⟨b0, b1, b2, b3, b4, b5, b6, b7, b8, b9, b10, b11, b12, b13, b14, b15, b16, y, x0, x1, x2, x3, x4, x5, x6, x7, x8, x9, x10, x11, x12, x13, x14, x15, rfl, rfl, hBW, h0, h1, h2, h3, h4, h5, h6, h7, h8, h9, h10, h11, h12, h13, h14, h15, h16⟩ ho hun hdep
        have hi : i < 17 := (Array.getElem?_eq_some_iff.1 ho).1
        have e6 := bb6.out.keep hBW
        have c0 := e6.cell 0
        have c1 := e6.cell 1
        simp at c0 c1
        have k0 := Lib.hid h0
        have k1 := Lib.hid h1
        have k2 := Lib.hid h2
        have k3 := Lib.hid h3
        have k4 := Lib.hid h4
        have k5 := Lib.hid h5
        have k6 := Lib.hid h6
        have k7 := Lib.hid h7
        have k8 := Lib.hid h8
        have k9 := Lib.hid h9
        have k10 := Lib.hid h10
        have k11 := Lib.hid h11
        have k12 := Lib.hid h12
        have k13 := Lib.hid h13
        have k14 := Lib.hid h14
        have k15 := Lib.hid h15
        have k16 := Lib.hid h16
        have kB := Lib.hid hBW
        clear e6 hBW
        have hite : ∀ W : World, (if E = false then Result.ok (Value.bool false) W else Result.ok (Value.bool true) W) = Result.ok (Value.bool E) W := fun W => by cases E <;> rfl
        have p2 := P2.out
        have p3 := P3.out
        rcases (by omega : i = 0 ∨ i = 1 ∨ i = 2 ∨ i = 3 ∨ i = 4 ∨ i = 5 ∨ i = 6 ∨ i = 7 ∨ i = 8 ∨ i = 9 ∨ i = 10 ∨ i = 11 ∨ i = 12 ∨ i = 13 ∨ i = 14 ∨ i = 15 ∨ i = 16) with rfl | rfl | rfl | rfl | rfl | rfl | rfl | rfl | rfl | rfl | rfl | rfl | rfl | rfl | rfl | rfl | rfl
        · cases ho
          refine wpOp_run rfl rfl ?_
          clear hdep hun h0 h1 h2 h3 h4 h5 h6 h7 h8 h9 h10 h11 h12 h13 h14 h15 h16
          unfold fr2
          go_simp
          exact ⟨true, b1, b2, b3, b4, b5, b6, b7, b8, b9, b10, b11, b12, b13, b14, b15, b16, y, St s n, x1, x2, x3, x4, x5, x6, x7, x8, x9, x10, x11, x12, x13, x14, x15, rfl, rfl, kB.out, fun _ => rfl, k1.out, k2.out, k3.out, k4.out, k5.out, k6.out, k7.out, k8.out, k9.out, k10.out, k11.out, k12.out, k13.out, k14.out, k15.out, k16.out⟩
        · cases ho
          refine wpOp_run rfl rfl ?_
          clear hdep hun h0 h1 h2 h3 h4 h5 h6 h7 h8 h9 h10 h11 h12 h13 h14 h15 h16
          unfold fr2
          go_simp
          exact ⟨b0, true, b2, b3, b4, b5, b6, b7, b8, b9, b10, b11, b12, b13, b14, b15, b16, y, x0, U8 u, x2, x3, x4, x5, x6, x7, x8, x9, x10, x11, x12, x13, x14, x15, rfl, rfl, kB.out, k0.out, fun _ => rfl, k2.out, k3.out, k4.out, k5.out, k6.out, k7.out, k8.out, k9.out, k10.out, k11.out, k12.out, k13.out, k14.out, k15.out, k16.out⟩
        · cases ho
          have d1 : b1 = true := hdep ⟨1, .data⟩ (by simp) rfl
          obtain rfl := h1 d1
          clear d1
          refine wpOp_run rfl rfl ?_
          clear hdep hun h0 h1 h2 h3 h4 h5 h6 h7 h8 h9 h10 h11 h12 h13 h14 h15 h16
          unfold fr2
          go_simp
          have hbl := (Below.refl W.heap.size W).alloc (Nat.le_refl _) (.cells #[U8 u] 5)
          exact ⟨b0, b1, true, b3, b4, b5, b6, b7, b8, b9, b10, b11, b12, b13, b14, b15, b16, y, x0, U8 u, .slice (some ⟨W.heap.size, 0, none⟩) 1 1, x3, x4, x5, x6, x7, x8, x9, x10, x11, x12, x13, x14, x15, rfl, rfl, kB.out.trans (hbl.mono kB.out.size), k0.out, fun _ => rfl, fun _ => ⟨W.heap.size, rfl, isB_lit W [u] #[U8 u] rfl⟩, k3.out, k4.out, k5.out, k6.out.keep hbl, k7.out, k8.out, k9.out, k10.out, k11.out, k12.out, k13.out, k14.out, k15.out, k16.out⟩
        · cases ho
          have d0 : b0 = true := hdep ⟨0, .data⟩ (by simp) rfl
          obtain rfl := h0 d0
          clear d0
          have d2 : b2 = true := hdep ⟨2, .data⟩ (by simp) rfl
          obtain ⟨g, rfl, hiS⟩ := h2 d2
          clear d2
          refine wpOp_run rfl rfl ?_
          clear hdep hun h0 h1 h2 h3 h4 h5 h6 h7 h8 h9 h10 h11 h12 h13 h14 h15 h16
          unfold fr2
          go_simp
          (with_reducible refine (HU.out _ _ hiS).mono ?_); rintro e w' ⟨rfl, hb⟩
          exact ⟨b0, b1, b2, true, b4, b5, b6, b7, b8, b9, b10, b11, b12, b13, b14, b15, b16, y, St s n, x1, .slice (some ⟨g, 0, none⟩) 1 1, St su K1, x4, x5, x6, x7, x8, x9, x10, x11, x12, x13, x14, x15, rfl, rfl, kB.out.trans (hb.mono kB.out.size), fun _ => rfl, k1.out, k2.out.keep hb, fun _ => rfl, k4.out, k5.out, k6.out.keep hb, k7.out, k8.out, k9.out, k10.out, k11.out, k12.out, k13.out, k14.out, k15.out, k16.out⟩
        · cases ho
          refine wpOp_run rfl rfl ?_
          clear hdep hun h0 h1 h2 h3 h4 h5 h6 h7 h8 h9 h10 h11 h12 h13 h14 h15 h16
          unfold fr2
          go_simp
          exact ⟨b0, b1, b2, b3, true, b5, b6, b7, b8, b9, b10, b11, b12, b13, b14, b15, b16, y, x0, x1, x2, x3, St s n, x5, x6, x7, x8, x9, x10, x11, x12, x13, x14, x15, rfl, rfl, kB.out, k0.out, k1.out, k2.out, k3.out, fun _ => rfl, k5.out, k6.out, k7.out, k8.out, k9.out, k10.out, k11.out, k12.out, k13.out, k14.out, k15.out, k16.out⟩
        · cases ho
          refine wpOp_run rfl rfl ?_
          clear hdep hun h0 h1 h2 h3 h4 h5 h6 h7 h8 h9 h10 h11 h12 h13 h14 h15 h16
          unfold fr2
          go_simp
          exact ⟨b0, b1, b2, b3, b4, true, b6, b7, b8, b9, b10, b11, b12, b13, b14, b15, b16, y, x0, x1, x2, x3, x4, U8 v, x6, x7, x8, x9, x10, x11, x12, x13, x14, x15, rfl, rfl, kB.out, k0.out, k1.out, k2.out, k3.out, k4.out, fun _ => rfl, k6.out, k7.out, k8.out, k9.out, k10.out, k11.out, k12.out, k13.out, k14.out, k15.out, k16.out⟩
        · cases ho
          have d5 : b5 = true := hdep ⟨5, .data⟩ (by simp) rfl
          obtain rfl := h5 d5
          clear d5
          refine wpOp_run rfl rfl ?_
          clear hdep hun h0 h1 h2 h3 h4 h5 h6 h7 h8 h9 h10 h11 h12 h13 h14 h15 h16
          unfold fr2
          go_simp
          have hbl := (Below.refl W.heap.size W).alloc (Nat.le_refl _) (.cells #[U8 v] 5)
          exact ⟨b0, b1, b2, b3, b4, b5, true, b7, b8, b9, b10, b11, b12, b13, b14, b15, b16, y, x0, x1, x2, x3, x4, U8 v, .slice (some ⟨W.heap.size, 0, none⟩) 1 1, x7, x8, x9, x10, x11, x12, x13, x14, x15, rfl, rfl, kB.out.trans (hbl.mono kB.out.size), k0.out, k1.out, k2.out.keep hbl, k3.out, k4.out, fun _ => rfl, fun _ => ⟨W.heap.size, rfl, isB_lit W [v] #[U8 v] rfl⟩, k7.out, k8.out, k9.out, k10.out, k11.out, k12.out, k13.out, k14.out, k15.out, k16.out⟩
        · cases ho
          have d4 : b4 = true := hdep ⟨4, .data⟩ (by simp) rfl
          obtain rfl := h4 d4
          clear d4
          have d6 : b6 = true := hdep ⟨6, .data⟩ (by simp) rfl
          obtain ⟨g, rfl, hiS⟩ := h6 d6
          clear d6
          refine wpOp_run rfl rfl ?_
          clear hdep hun h0 h1 h2 h3 h4 h5 h6 h7 h8 h9 h10 h11 h12 h13 h14 h15 h16
          unfold fr2
          go_simp
          (with_reducible refine (HV.out _ _ hiS).mono ?_); rintro e w' ⟨rfl, hb⟩
          exact ⟨b0, b1, b2, b3, b4, b5, b6, true, b8, b9, b10, b11, b12, b13, b14, b15, b16, y, x0, x1, x2, x3, St s n, x5, .slice (some ⟨g, 0, none⟩) 1 1, St sv K1, x8, x9, x10, x11, x12, x13, x14, x15, rfl, rfl, kB.out.trans (hb.mono kB.out.size), k0.out, k1.out, k2.out.keep hb, k3.out, fun _ => rfl, k5.out, k6.out.keep hb, fun _ => rfl, k8.out, k9.out, k10.out, k11.out, k12.out, k13.out, k14.out, k15.out, k16.out⟩
        · cases ho
          have d3 : b3 = true := hdep ⟨3, .data⟩ (by simp) rfl
          obtain rfl := h3 d3
          clear d3
          have d7 : b7 = true := hdep ⟨7, .data⟩ (by simp) rfl
          obtain rfl := h7 d7
          clear d7
          refine wpOp_run rfl rfl ?_
          clear hdep hun h0 h1 h2 h3 h4 h5 h6 h7 h8 h9 h10 h11 h12 h13 h14 h15 h16
          unfold fr2
          go_simp
          exact ⟨b0, b1, b2, b3, b4, b5, b6, b7, true, b9, b10, b11, b12, b13, b14, b15, b16, y, x0, x1, x2, St su K1, x4, x5, x6, St sv K1, .bool E, x9, x10, x11, x12, x13, x14, x15, rfl, rfl, kB.out, k0.out, k1.out, k2.out, fun _ => rfl, k4.out, k5.out, k6.out, fun _ => rfl, fun _ => rfl, k9.out, k10.out, k11.out, k12.out, k13.out, k14.out, k15.out, k16.out⟩
        · cases ho
          refine wpOp_run rfl rfl ?_
          clear hdep hun h0 h1 h2 h3 h4 h5 h6 h7 h8 h9 h10 h11 h12 h13 h14 h15 h16
          unfold fr2
          go_simp
          exact ⟨b0, b1, b2, b3, b4, b5, b6, b7, b8, true, b10, b11, b12, b13, b14, b15, b16, y, x0, x1, x2, x3, x4, x5, x6, x7, x8, U8 u, x10, x11, x12, x13, x14, x15, rfl, rfl, kB.out, k0.out, k1.out, k2.out, k3.out, k4.out, k5.out, k6.out, k7.out, k8.out, fun _ => rfl, k10.out, k11.out, k12.out, k13.out, k14.out, k15.out, k16.out⟩
        · cases ho
          refine wpOp_run rfl rfl ?_
          clear hdep hun h0 h1 h2 h3 h4 h5 h6 h7 h8 h9 h10 h11 h12 h13 h14 h15 h16
          unfold fr2
          go_simp
          exact ⟨b0, b1, b2, b3, b4, b5, b6, b7, b8, b9, true, b11, b12, b13, b14, b15, b16, y, x0, x1, x2, x3, x4, x5, x6, x7, x8, x9, U8 v, x11, x12, x13, x14, x15, rfl, rfl, kB.out, k0.out, k1.out, k2.out, k3.out, k4.out, k5.out, k6.out, k7.out, k8.out, k9.out, fun _ => rfl, k11.out, k12.out, k13.out, k14.out, k15.out, k16.out⟩
        · cases ho
          have d9 : b9 = true := hdep ⟨9, .data⟩ (by simp) rfl
          obtain rfl := h9 d9
          clear d9
          have d10 : b10 = true := hdep ⟨10, .data⟩ (by simp) rfl
          obtain rfl := h10 d10
          clear d10
          refine wpOp_run rfl rfl ?_
          clear hdep hun h0 h1 h2 h3 h4 h5 h6 h7 h8 h9 h10 h11 h12 h13 h14 h15 h16
          unfold fr2
          go_simp
          exact ⟨b0, b1, b2, b3, b4, b5, b6, b7, b8, b9, b10, true, b12, b13, b14, b15, b16, y, x0, x1, x2, x3, x4, x5, x6, x7, x8, U8 u, U8 v, .bool E, x12, x13, x14, x15, rfl, rfl, kB.out, k0.out, k1.out, k2.out, k3.out, k4.out, k5.out, k6.out, k7.out, k8.out, fun _ => rfl, fun _ => rfl, fun _ => rfl, k12.out, k13.out, k14.out, k15.out, k16.out⟩
        · cases ho
          have d8 : b8 = true := hdep ⟨8, .data⟩ (by simp) rfl
          obtain rfl := h8 d8
          clear d8
          have d11 : b11 = true := hdep ⟨11, .data⟩ (by simp) rfl
          obtain rfl := h11 d11
          clear d11
          refine wpOp_run rfl rfl ?_
          clear hdep hun h0 h1 h2 h3 h4 h5 h6 h7 h8 h9 h10 h11 h12 h13 h14 h15 h16
          unfold fr2
          go_simp
          exact ⟨b0, b1, b2, b3, b4, b5, b6, b7, b8, b9, b10, b11, true, b13, b14, b15, b16, y, x0, x1, x2, x3, x4, x5, x6, x7, .bool E, x9, x10, .bool E, .bool true, x13, x14, x15, rfl, rfl, kB.out, k0.out, k1.out, k2.out, k3.out, k4.out, k5.out, k6.out, k7.out, fun _ => rfl, k9.out, k10.out, fun _ => rfl, fun _ => rfl, k13.out, k14.out, k15.out, k16.out⟩
        · cases ho
          have d12 : b12 = true := hdep ⟨12, .data⟩ (by simp) rfl
          obtain rfl := h12 d12
          clear d12
          refine wpOp_run rfl rfl ?_
          clear hdep hun h0 h1 h2 h3 h4 h5 h6 h7 h8 h9 h10 h11 h12 h13 h14 h15 h16
          unfold fr2
          go_simp
          exact ⟨b0, b1, b2, b3, b4, b5, b6, b7, b8, b9, b10, b11, b12, true, b14, b15, b16, y, x0, x1, x2, x3, x4, x5, x6, x7, x8, x9, x10, x11, .bool true, .bool true, x14, x15, rfl, rfl, kB.out, k0.out, k1.out, k2.out, k3.out, k4.out, k5.out, k6.out, k7.out, k8.out, k9.out, k10.out, k11.out, fun _ => rfl, fun _ => rfl, k14.out, k15.out, k16.out⟩
        · cases ho
          have d13 : b13 = true := hdep ⟨13, .guard⟩ (by simp) rfl
          obtain rfl := h13 d13
          clear d13
          refine wpOp_guard rfl rfl ?_
          clear hdep hun h0 h1 h2 h3 h4 h5 h6 h7 h8 h9 h10 h11 h12 h13 h14 h15 h16
          unfold fr2
          go_simp
          (with_reducible refine (HW.out _).mono ?_); rintro e w' ⟨rfl, hb⟩
          exact ⟨b0, b1, b2, b3, b4, b5, b6, b7, b8, b9, b10, b11, b12, b13, true, b15, b16, y, x0, x1, x2, x3, x4, x5, x6, x7, x8, x9, x10, x11, x12, .bool true, .bool true, x15, rfl, rfl, kB.out.trans (hb.mono kB.out.size), k0.out, k1.out, k2.out.keep hb, k3.out, k4.out, k5.out, k6.out.keep hb, k7.out, k8.out, k9.out, k10.out, k11.out, k12.out, fun _ => rfl, fun _ => rfl, k15.out, k16.out⟩
        · cases ho
          have d13 : b13 = true := hdep ⟨13, .data⟩ (by simp) rfl
          obtain rfl := h13 d13
          clear d13
          have d14 : b14 = true := hdep ⟨14, .data⟩ (by simp) rfl
          obtain rfl := h14 d14
          clear d14
          refine wpOp_run rfl rfl ?_
          clear hdep hun h0 h1 h2 h3 h4 h5 h6 h7 h8 h9 h10 h11 h12 h13 h14 h15 h16
          unfold fr2
          go_simp
          exact ⟨b0, b1, b2, b3, b4, b5, b6, b7, b8, b9, b10, b11, b12, b13, b14, true, b16, y, x0, x1, x2, x3, x4, x5, x6, x7, x8, x9, x10, x11, x12, .bool true, .bool true, .bool true, rfl, rfl, kB.out, k0.out, k1.out, k2.out, k3.out, k4.out, k5.out, k6.out, k7.out, k8.out, k9.out, k10.out, k11.out, k12.out, fun _ => rfl, fun _ => rfl, fun _ => rfl, k16.out⟩
        · cases ho
          have d15 : b15 = true := hdep ⟨15, .data⟩ (by simp) rfl
          obtain rfl := h15 d15
          clear d15
          refine wpOp_run rfl rfl ?_
          clear hdep hun h0 h1 h2 h3 h4 h5 h6 h7 h8 h9 h10 h11 h12 h13 h14 h15 h16
          unfold fr2
          go_simp
          exact ⟨b0, b1, b2, b3, b4, b5, b6, b7, b8, b9, b10, b11, b12, b13, b14, b15, true, .bool true, x0, x1, x2, x3, x4, x5, x6, x7, x8, x9, x10, x11, x12, x13, x14, .bool true, rfl, rfl, kB.out, k0.out, k1.out, k2.out, k3.out, k4.out, k5.out, k6.out, k7.out, k8.out, k9.out, k10.out, k11.out, k12.out, k13.out, k14.out, fun _ => rfl, fun _ => rfl⟩
    case step =>
      rintro L a W i o ⟨b0, b1, b2, b3, b4, b5, b6', b7', b8, b9, p, q, x0, x1, x2, x3, x4, x5, rfl, rfl, hBW, h0, h1', h2, h3, h4, h5, hp, hq, hd, h8, h9⟩ ho hun hdep
      have hi : i < 10 := (Array.getElem?_eq_some_iff.1 ho).1
      have e6 := b6.keep hBW
      have e7 := b7.keep hBW
      have c0 := e6.cell 0
      have c1 := e6.cell 1
      have c2 := e7.cell 0
      have c3 := e7.cell 1
      simp at c0 c1 c2 c3
      have k0 := Lib.hid h0
      have k1 := Lib.hid h1'
      have k2 := Lib.hid h2
      have k3 := Lib.hid h3
      have k4 := Lib.hid h4
      have k5 := Lib.hid h5
      have k8 := Lib.hid h8
      have k9 := Lib.hid h9
      have kp := Lib.hid hp
      have kq := Lib.hid hq
      have kd := Lib.hid hd
      have kB := Lib.hid hBW
      clear e6 e7 hBW
      rcases (by omega : i = 0 ∨ i = 1 ∨ i = 2 ∨ i = 3 ∨ i = 4 ∨ i = 5 ∨ i = 6 ∨ i = 7 ∨ i = 8 ∨ i = 9) with rfl | rfl | rfl | rfl | rfl | rfl | rfl | rfl | rfl | rfl
      · cases ho
        refine wpOp_run rfl rfl ?_
        clear hdep hun hp hq hd h0 h1' h2 h3 h4 h5 h8 h9 hz
        unfold fr
        go_simp
        exact ⟨true, b1, b2, b3, b4, b5, b6', b7', b8, b9, p, q, St s n, x1, x2, x3, x4, x5, rfl, rfl, kB.out, fun _ => rfl, k1.out, k2.out, k3.out, k4.out, k5.out, kp.out, kq.out, kd.out, k8.out, k9.out⟩
      · cases ho
        refine wpOp_run rfl rfl ?_
        clear hdep hun hp hq hd h0 h1' h2 h3 h4 h5 h8 h9 hz
        unfold fr
        go_simp
        exact ⟨b0, true, b2, b3, b4, b5, b6', b7', b8, b9, p, q, x0, .slice A m ca, x2, x3, x4, x5, rfl, rfl, kB.out, k0.out, fun _ => rfl, k2.out, k3.out, k4.out, k5.out, kp.out, kq.out, kd.out, k8.out, k9.out⟩
      · cases ho
        refine wpOp_run rfl rfl ?_
        have d0 : b0 = true := hdep ⟨0, .data⟩ (by simp) rfl
        have d1 : b1 = true := hdep ⟨1, .data⟩ (by simp) rfl
        obtain rfl := h0 d0
        obtain rfl := h1' d1
        clear d0 d1
        have hiA := KA.out W (hB'.out.trans (kB.out.mono hB'.out.size))
        clear hdep hun hp hq hd h0 h1' h2 h3 h4 h5 h8 h9 hz
        unfold fr
        go_simp
        (with_reducible refine (HX.out _ hiA).mono ?_); rintro e w' ⟨rfl, hb⟩
        exact ⟨b0, b1, true, b3, b4, b5, b6', b7', b8, b9, p, q, St s n, .slice A m ca, St X K, x3, x4, x5, rfl, rfl, kB.out.trans (hb.mono kB.out.size), fun _ => rfl, fun _ => rfl, fun _ => rfl, k3.out, k4.out, k5.out, kp.out.keep hb, kq.out.keep hb, kd.out, k8.out, k9.out⟩
      · cases ho
        refine wpOp_run rfl rfl ?_
        clear hdep hun hp hq hd h0 h1' h2 h3 h4 h5 h8 h9 hz
        unfold fr
        go_simp
        exact ⟨b0, b1, b2, true, b4, b5, b6', b7', b8, b9, p, q, x0, x1, x2, St t n, x4, x5, rfl, rfl, kB.out, k0.out, k1.out, k2.out, fun _ => rfl, k4.out, k5.out, kp.out, kq.out, kd.out, k8.out, k9.out⟩
      · cases ho
        refine wpOp_run rfl rfl ?_
        clear hdep hun hp hq hd h0 h1' h2 h3 h4 h5 h8 h9 hz
        unfold fr
        go_simp
        exact ⟨b0, b1, b2, b3, true, b5, b6', b7', b8, b9, p, q, x0, x1, x2, x3, .slice A m ca, x5, rfl, rfl, kB.out, k0.out, k1.out, k2.out, k3.out, fun _ => rfl, k5.out, kp.out, kq.out, kd.out, k8.out, k9.out⟩
      · cases ho
        refine wpOp_run rfl rfl ?_
        have d0 : b3 = true := hdep ⟨3, .data⟩ (by simp) rfl
        have d1 : b4 = true := hdep ⟨4, .data⟩ (by simp) rfl
        obtain rfl := h3 d0
        obtain rfl := h4 d1
        clear d0 d1
        have hiA := KA.out W (hB'.out.trans (kB.out.mono hB'.out.size))
        clear hdep hun hp hq hd h0 h1' h2 h3 h4 h5 h8 h9 hz
        unfold fr
        go_simp
        (with_reducible refine (HY.out _ hiA).mono ?_); rintro e w' ⟨rfl, hb⟩
        exact ⟨b0, b1, b2, b3, b4, true, b6', b7', b8, b9, p, q, x0, x1, x2, St t n, .slice A m ca, St Y K, rfl, rfl, kB.out.trans (hb.mono kB.out.size), k0.out, k1.out, k2.out, fun _ => rfl, fun _ => rfl, fun _ => rfl, kp.out.keep hb, kq.out.keep hb, kd.out, k8.out, k9.out⟩
      · cases ho
        refine wpOp_run rfl rfl ?_
        have hun' : b6' = false := hun
        obtain rfl := hun'
        have hz' := zero_St
        have nd : Hid (∀ h, b7' = true → q = .pointer (some ⟨h, 0, none⟩) → h < W.heap.size) := fun h hb e => by
          obtain ⟨g, _, _, e2, _, hx, _⟩ := hq hb
          rw [e2] at e; cases e; exact hx.lt
        clear hdep hun hp hq hd h0 h1' h2 h3 h4 h5 h8 h9 hz
        unfold fr
        go_simp
        have hbl := (Below.refl W.heap.size W).alloc (Nat.le_refl _) (.cells #[.int .u64 0, .int .i64 0] 26)
        exact ⟨b0, b1, b2, b3, b4, b5, true, b7', b8, b9, .pointer (some ⟨W.heap.size, 0, none⟩), q, x0, x1, x2, x3, x4, x5, rfl, rfl, kB.out.trans (hbl.mono kB.out.size), k0.out, k1.out, k2.out, k3.out, k4.out, k5.out, fun _ => ⟨W.heap.size, _, _, rfl, kB.out.size, BoxN.new W _ _, fun h8 => (by have := k8.out h8; cases this)⟩, kq.out.keep hbl, fun _ hb7 g h eg eh => (by cases eg; have := nd.out h hb7 eh; omega), fun _ => rfl, k9.out⟩
      · cases ho
        refine wpOp_run rfl rfl ?_
        have hun' : b7' = false := hun
        obtain rfl := hun'
        have hz' := zero_St
        have nd : Hid (∀ h, b6' = true → p = .pointer (some ⟨h, 0, none⟩) → h < W.heap.size) := fun h hb e => by
          obtain ⟨g, _, _, e2, _, hx, _⟩ := hp hb
          rw [e2] at e; cases e; exact hx.lt
        clear hdep hun hp hq hd h0 h1' h2 h3 h4 h5 h8 h9 hz
        unfold fr
        go_simp
        have hbl := (Below.refl W.heap.size W).alloc (Nat.le_refl _) (.cells #[.int .u64 0, .int .i64 0] 26)
        exact ⟨b0, b1, b2, b3, b4, b5, b6', true, b8, b9, p, .pointer (some ⟨W.heap.size, 0, none⟩), x0, x1, x2, x3, x4, x5, rfl, rfl, kB.out.trans (hbl.mono kB.out.size), k0.out, k1.out, k2.out, k3.out, k4.out, k5.out, kp.out.keep hbl, fun _ => ⟨W.heap.size, _, _, rfl, kB.out.size, BoxN.new W _ _, fun h9 => (by have := k9.out h9; cases this)⟩, fun hb6 _ g h eg eh => (by cases eh; have := nd.out g hb6 eg; omega), k8.out, fun _ => rfl⟩
      · cases ho
        refine wpOp_run rfl rfl ?_
        have d6 : b6' = true := hdep ⟨6, .data⟩ (by simp) rfl
        have d2 : b2 = true := hdep ⟨2, .data⟩ (by simp) rfl
        obtain ⟨g, y1, y2, rfl, hgW, hbx, -⟩ := hp d6
        obtain rfl := h2 d2
        have z0 := hbx.cell 0
        have z1 := hbx.cell 1
        have z2 := hbx.frozen 0
        have z3 := hbx.frozen 1
        simp at z0 z1
        have zl := hbx.lt
        have hbx' := Lib.hid ((hbx.set1 0 (U64 X)).set1 1 (I64 K))
        have far : Hid (∀ h (y1 y2 : Value), h ≠ g → BoxN W h 26 #[y1, y2] → BoxN ((W.setCell ⟨g, 0, none⟩ (U64 X)).setCell ⟨g, 1, none⟩ (I64 K)) h 26 #[y1, y2]) := fun h y1 y2 hne hh => (hh.far (p := ⟨g, 0, none⟩) hne _).far (p := ⟨g, 1, none⟩) hne _
        have d6' := Lib.hid d6
        have d2' := Lib.hid d2
        have hgW' := Lib.hid hgW
        clear hbx d6 d2 hgW
        clear hdep hun hp hq hd h0 h1' h2 h3 h4 h5 h8 h9 hz
        unfold fr
        go_simp
        exact ⟨b0, b1, b2, b3, b4, b5, b6', b7', true, b9, .pointer (some ⟨g, 0, none⟩), q, x0, x1, St X K, x3, x4, x5, rfl, rfl, (kB.out.setCell (p := ⟨g, 0, none⟩) hgW'.out _).setCell (p := ⟨g, 1, none⟩) hgW'.out _, k0.out, k1.out, fun _ => rfl, k3.out, k4.out, k5.out, fun _ => ⟨g, _, _, rfl, hgW'.out, hbx'.out, fun _ => ⟨rfl, rfl⟩⟩, fun hb7 => (by obtain ⟨h, y1, y2, e, hh, hx, hk⟩ := kq.out hb7; exact ⟨h, y1, y2, e, hh, far.out h y1 y2 (fun e2 => kd.out d6'.out hb7 g h rfl e e2.symm) hx, hk⟩), kd.out, fun _ => d6'.out, k9.out⟩
      · cases ho
        refine wpOp_run rfl rfl ?_
        have d6 : b7' = true := hdep ⟨7, .data⟩ (by simp) rfl
        have d2 : b5 = true := hdep ⟨5, .data⟩ (by simp) rfl
        obtain ⟨g, y1, y2, rfl, hgW, hbx, -⟩ := hq d6
        obtain rfl := h5 d2
        have z0 := hbx.cell 0
        have z1 := hbx.cell 1
        have z2 := hbx.frozen 0
        have z3 := hbx.frozen 1
        simp at z0 z1
        have zl := hbx.lt
        have hbx' := Lib.hid ((hbx.set1 0 (U64 Y)).set1 1 (I64 K))
        have far : Hid (∀ h (y1 y2 : Value), h ≠ g → BoxN W h 26 #[y1, y2] → BoxN ((W.setCell ⟨g, 0, none⟩ (U64 Y)).setCell ⟨g, 1, none⟩ (I64 K)) h 26 #[y1, y2]) := fun h y1 y2 hne hh => (hh.far (p := ⟨g, 0, none⟩) hne _).far (p := ⟨g, 1, none⟩) hne _
        have d6' := Lib.hid d6
        have d2' := Lib.hid d2
        have hgW' := Lib.hid hgW
        clear hbx d6 d2 hgW
        clear hdep hun hp hq hd h0 h1' h2 h3 h4 h5 h8 h9 hz
        unfold fr
        go_simp
        exact ⟨b0, b1, b2, b3, b4, b5, b6', b7', b8, true, p, .pointer (some ⟨g, 0, none⟩), x0, x1, x2, x3, x4, St Y K, rfl, rfl, (kB.out.setCell (p := ⟨g, 0, none⟩) hgW'.out _).setCell (p := ⟨g, 1, none⟩) hgW'.out _, k0.out, k1.out, k2.out, k3.out, k4.out, fun _ => rfl, fun hb6 => (by obtain ⟨h, y1, y2, e, hh, hx, hk⟩ := kp.out hb6; exact ⟨h, y1, y2, e, hh, far.out h y1 y2 (fun e2 => kd.out hb6 d6'.out h g e rfl e2) hx, hk⟩), fun _ => ⟨g, _, _, rfl, hgW'.out, hbx'.out, fun _ => ⟨rfl, rfl⟩⟩, kd.out, k8.out, fun _ => d6'.out⟩
end DStates
end Go.Proofs.Ytdoliblcilhneaa
