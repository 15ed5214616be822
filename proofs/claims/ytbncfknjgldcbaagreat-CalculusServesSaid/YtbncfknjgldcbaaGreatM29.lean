/- Merged texts: CRConf. -/
import Derived.Test.YtbncfknjgldcbaaGreatM19
import Derived.Test.YtbncfknjgldcbaaGreatM21
import Derived.Test.YtbncfknjgldcbaaGreatM22
import Derived.Test.YtbncfknjgldcbaaGreatM28
/- The reference's Conforms of valid arguments. -/
namespace Go.Proofs.YtbncfknjgldcbaaGreat
open Go.RowKit Go.Joins Go.Shelf Go.Sort Num

/-- P holds of all pairs up to (i, k). -/
def Pr2 (P : Nat → Nat → Prop) (n i k : Nat) : Prop := ∀ i' k', (i' < i ∨ (i' = i ∧ k' < k)) → i' ≤ k' → k' < n → P i' k'
theorem Pr2.zero (P : Nat → Nat → Prop) (n : Nat) : Pr2 P n 0 0 := fun i' k' h _ _ => by omega
theorem Pr2.step {P : Nat → Nat → Prop} {n i k : Nat} (h1 : i ≤ k) (h2 : k < n) : Pr2 P n i (k + 1) ↔ Pr2 P n i k ∧ P i k := by
  constructor
  · intro h
    exact ⟨fun i' k' h3 h4 h5 => h i' k' (by omega) h4 h5, h i k (.inr ⟨rfl, by omega⟩) h1 h2⟩
  · rintro ⟨h, hp⟩ i' k' h3 h4 h5
    by_cases e : i' = i ∧ k' = k
    · obtain ⟨rfl, rfl⟩ := e; exact hp
    · exact h i' k' (by omega) h4 h5
theorem Pr2.next {P : Nat → Nat → Prop} {n i : Nat} : Pr2 P n i n ↔ Pr2 P n (i + 1) (i + 1) := by
  constructor
  · intro h i' k' h3 h4 h5
    exact h i' k' (by omega) h4 h5
  · intro h i' k' h3 h4 h5
    exact h i' k' (by omega) h4 h5
theorem Pr2.all {P : Nat → Nat → Prop} {n : Nat} : Pr2 P n n n ↔ ∀ i k, i ≤ k → k < n → P i k := by
  constructor
  · intro h i k h4 h5
    exact h i k (by omega) h4 h5
  · intro h i' k' _ h4 h5
    exact h i' k' h4 h5
def okP (c : List Buck) (l : List Sn) (i k : Nat) : Prop := ∀ x y, l[i]? = some x → l[k]? = some y → okc c (y.t - x.t)
def fitP (c : List Buck) (l : List Sn) (i k : Nat) : Prop := ∀ x y, l[i]? = some x → l[k]? = some y → ((sumS ((l.drop i).take (k - i + 1)) : Int) : Rat) ≤ minV c ((y.t - x.t : Int) : Rat)
theorem conf_of {c : List Buck} {l : List Sn} {F : Bool} (h1 : Pr2 (okP c l) l.length l.length l.length) (h2 : F = true ↔ Pr2 (fitP c l) l.length l.length l.length) : ConfP c l F 0 := by
  rw [Pr2.all] at h1 h2
  refine .inr ⟨?_, rfl, h2.trans ⟨fun h i k x y hik hx hy => h i k hik (List.getElem?_eq_some_iff.1 hy).1 x y hx hy, fun h i k hik _ x y hx hy => h i k x y hik hx hy⟩⟩
  rintro ⟨i, k, x, y, hik, hx, hy, hn⟩
  exact hn (h1 i k hik (List.getElem?_eq_some_iff.1 hy).1 x y hx hy)
theorem sumS_snoc (l : List Sn) (x : Sn) : sumS (l ++ [x]) = sumS l + x.s := by
  induction l with
  | nil => simp [sumS]
  | cons y l ih => simp only [List.cons_append, sumS, ih]; omega
theorem sumS_next {l : List Sn} {i k : Nat} {x : Sn} (h1 : i ≤ k) (h : l[k]? = some x) : sumS ((l.drop i).take (k - i + 1)) = sumS ((l.drop i).take (k - i)) + x.s := by
  have : (l.drop i)[k - i]? = some x := by rw [List.getElem?_drop, show i + (k - i) = k by omega]; exact h
  rw [take_succ' this, sumS_snoc]
theorem sumS_bd {l : List Sn} (h : ∀ x ∈ l, 1 ≤ x.s ∧ x.s ≤ 72) : 0 ≤ sumS l ∧ sumS l ≤ 72 * l.length := by
  induction l with
  | nil => simp [sumS]
  | cons y l ih =>
    have h1 := ih fun x hx => h x (List.mem_cons_of_mem _ hx)
    have h2 := h y List.mem_cons_self
    simp only [sumS, List.length_cons]
    omega

theorem wrap_small {z : Int} (h : -1073741824 ≤ z ∧ z ≤ 1073741824) : IntKind.i64.wrap z = z := by
  unfold IntKind.wrap
  simp [IntKind.signed, IntKind.bits]
  omega

set_option maxRecDepth 100000 in
set_option maxHeartbeats 4000000 in
theorem rconf_any (A B : Option Addr) (ca cb : Nat) (c : List Buck) (hl1 : 1 ≤ c.length) (hl2 : c.length ≤ 32) (l : List Sn) (hbl : ∀ x ∈ l, x.bd64) (hlen : l.length ≤ 60) (hok : frOk 0 l = true) (w : World) (hC : isC A ca c w) (hS : isS B l w) :
    Calls Tryz.prog 35 #[.slice A c.length ca, .slice B l.length cb] w fun e w' => (∃ r x, e = .returned (.tuple #[.bool r, .int .i64 x]) ∧ ConfP c l r x) ∧ Below w.heap.size w w' := by
  have hfr : frB l = true := by unfold frB; rw [hok, decide_eq_true (by omega)]; rfl
  have HV := Ref.valid_ok hl1 hl2 hC
  have HF : Hid (∀ W : World, Below w.heap.size w W → _) := fun W hW => rframes_any B cb l (fun _ => hbl) W (cl_isS B l w W hS hW)
  have HAt : Hid (∀ (x : Int) (W : World), (0 ≤ x ∧ x ≤ 1073741824) → Below w.heap.size w W → Calls Tryz.prog 9 #[.slice A c.length ca, .agg #[.int .i64 x, .int .i64 1]] W fun e w' => e = .returned (ratV (atV c (x : Rat))) ∧ Below W.heap.size W w') := fun x W hx hW => Ref.at_ok A ca c (x : Rat) hl1 hl2 ⟨by show x.natAbs ≤ 1073741824; omega, (by decide : (1 : Nat) ≤ 1073741824)⟩ (Rat.intCast_le_intCast.2 hx.1) W (cl_isC A ca c w W hC hW)
  have HCm : Hid (∀ (S : Int) (q : Rat) (W : World), (0 ≤ S ∧ S ≤ 4320) → Fit q → Calls Tryz.prog 53 #[.agg #[.int .i64 S, .int .i64 1], .agg #[.int .i64 q.num, .int .i64 q.den]] W fun e w' => e = .returned (.int .i64 (cmpQ (S : Rat) q)) ∧ Below W.heap.size W w') := fun S q W hS hq => Ref.cmp_r ⟨by show S.natAbs ≤ 1073741824; omega, (by decide : (1 : Nat) ≤ 1073741824)⟩ hq W
  have hmem := Lib.hid (fun x hx => frOk_mem hok (Int.le_refl 0) x hx)
  have hle := Lib.hid (fun (i k : Nat) (x y : Sn) => frOk_le hok i k x y)
  have hcne : c ≠ [] := by intro e; rw [e] at hl1; simp at hl1
  have hS' := Lib.hid hS
  rw [hfr] at HF
  replace HV := Lib.hid HV
  clear hC hS hbl hok hfr hl1 hl2
  go_enter Tryz.func35, Tryz.ntmps35
  go_wp2_with fail
  (with_reducible refine HV.out.mono ?_); rintro _ w1 ⟨rfl, hb1⟩
  go_wp2_with fail
  (with_reducible refine (HF.out w1 hb1).mono ?_); rintro _ w2 ⟨rfl, hb2⟩
  have hB2 := hb1.trans (hb2.mono hb1.size)
  clear hb1 hb2 HV HF
  go_wp2_with fail
  go_loopw [6, 7] (fun f i wr => ∃ (j : Nat) (F : Bool), j ≤ l.length ∧ i = .int .i64 ↑j ∧ f = .bool F ∧ Hid (Pr2 (okP c l) l.length j j) ∧ Hid (F = true ↔ Pr2 (fitP c l) l.length j j) ∧ Below w2.heap.size w2 wr)
    (fun _ i _ => l.length - (intOf i).toNat)
  case atStart => exact ⟨0, true, Nat.zero_le _, rfl, rfl, Pr2.zero _ _, ⟨fun _ => Pr2.zero _ _, fun _ => rfl⟩, Below.refl _ _⟩
  case round =>
    obtain ⟨i, F, hi, rfl, rfl, hP, hF, hB⟩ := hrel
    by_cases hlt : i < l.length
    · have hd : decide ((i : Int) < l.length) = true := decide_eq_true (by omega)
      have hB1 := Lib.hid (hB2.trans (hB.mono hB2.size))
      have hBz := Lib.hid hB
      clear hB
      obtain ⟨Yo, hYo⟩ : ∃ Y, Y = wr := ⟨_, rfl⟩
      subst hYo
      go_wp2_with fail
      go_loopw [6, 8, 9] (fun f s k wz => ∃ (m : Nat) (G : Bool) (S : Int), i ≤ m ∧ m ≤ l.length ∧ k = .int .i64 ↑m ∧ f = .bool G ∧ s = .int .i64 S ∧ Hid (S = sumS ((l.drop i).take (m - i))) ∧ Hid (Pr2 (okP c l) l.length i m) ∧ Hid (G = true ↔ Pr2 (fitP c l) l.length i m) ∧ Below Yo.heap.size Yo wz)
        (fun _ _ k _ => l.length - (intOf k).toNat)
      case atStart => exact ⟨i, F, 0, Nat.le_refl _, hi, rfl, rfl, rfl, by unfold Hid; rw [Nat.sub_self, List.take_zero]; rfl, hP.out, hF.out, Below.refl _ _⟩
      case round =>
        obtain ⟨m, G, S, him, hm, rfl, rfl, rfl, hSm, hP2, hF2, hB3⟩ := hrel
        by_cases hlm : m < l.length
        · have hdm : decide ((m : Int) < l.length) = true := decide_eq_true (by omega)
          have hx : l[i]? = some (l[i]'hlt) := List.getElem?_eq_getElem hlt
          obtain ⟨x, hxe⟩ : ∃ x, l[i]'hlt = x := ⟨_, rfl⟩
          rw [hxe] at hx
          have hy : l[m]? = some (l[m]'hlm) := List.getElem?_eq_getElem hlm
          obtain ⟨y, hye⟩ : ∃ y, l[m]'hlm = y := ⟨_, rfl⟩
          rw [hye] at hy
          obtain ⟨px1, px2, -, -⟩ := hmem.out x (List.mem_of_getElem? hx)
          obtain ⟨py1, py2, py3, py4⟩ := hmem.out y (List.mem_of_getElem? hy)
          have hxy := hle.out i m x y him hx hy
          have hB4 := hB1.out.trans (hB3.mono hB1.out.size)
          obtain ⟨b, off, rfl, hb, hr⟩ := (cl_isS B l w _ hS'.out hB4) (by intro e; rw [e] at hlt; simp at hlt)
          obtain ⟨c0, c1, c2⟩ := hr i x hx
          obtain ⟨d0, d1, d2⟩ := hr m y hy
          have hsb := sumS_bd (l := (l.drop i).take (m - i)) (fun z hz => (hmem.out z (List.mem_of_mem_drop (List.mem_of_mem_take hz))).2.2)
          rw [← hSm.out, List.length_take, List.length_drop] at hsb
          have hsn : Hid (S + y.s = sumS ((l.drop i).take (m - i + 1))) := by unfold Hid; rw [sumS_next him hy, ← hSm.out]
          have hS60 : 0 ≤ S ∧ S ≤ 4248 := by omega
          have hPn : Hid (okc c (y.t - x.t) → Pr2 (okP c l) l.length i (m + 1)) := fun h => (Pr2.step him hlm).2 ⟨hP2.out, fun x' y' hx' hy' => by rw [hx] at hx'; rw [hy] at hy'; cases hx'; cases hy'; exact h⟩
          have hFn : Hid (∀ T : Bool, (T = true ↔ ((S + y.s : Int) : Rat) ≤ minV c ((y.t - x.t : Int) : Rat)) → ((G && T) = true ↔ Pr2 (fitP c l) l.length i (m + 1))) := fun T hT => by
            rw [Bool.and_eq_true, hF2.out, Pr2.step him hlm, hT]
            refine and_congr_right fun _ => ⟨fun h x' y' hx' hy' => ?_, fun h => ?_⟩
            · rw [hx] at hx'; rw [hy] at hy'; cases hx'; cases hy'
              rw [← hsn.out]; exact h
            · have := h x y hx hy
              rwa [← hsn.out] at this
          have hBad : Hid (¬ okc c (y.t - x.t) → ConfP c l false 3) := fun h => .inl ⟨⟨i, m, x, y, him, hx, hy, h⟩, rfl, rfl⟩
          have HAx := Lib.hid (fun W => HAt.out (y.t - x.t) W ⟨by omega, by omega⟩)
          have hHB4 := Lib.hid hB4
          have hHB3 := Lib.hid hB3
          obtain ⟨Tx, hTx⟩ : ∃ T, x.t = T := ⟨_, rfl⟩
          obtain ⟨Ty, hTy⟩ : ∃ T, y.t = T := ⟨_, rfl⟩
          obtain ⟨Sy, hSy⟩ : ∃ T, y.s = T := ⟨_, rfl⟩
          rw [hTx] at px1 px2 hxy c0 hPn hFn hBad HAx
          rw [hTy] at py1 py2 hxy d0 hPn hFn hBad HAx
          rw [hSy] at py3 py4 d2 hsn hFn
          have hbz : b < wr.heap.size := hb
          obtain ⟨⟨vn, vd, ve⟩, hav⟩ : ∃ t, atV c ((Ty - Tx : Int) : Rat) = t := ⟨_, rfl⟩
          replace HAx := HAx.out
          rw [hav] at HAx
          simp only [ratV] at HAx
          replace HAx := Lib.hid HAx
          have Hav := Lib.hid hav
          have hwT : IntKind.i64.wrap (Ty - Tx) = Ty - Tx := wrap_small (by omega)
          have hil : decide ((i : Int) < l.length) = true := decide_eq_true (by omega)
          clear hav
          clear hx hy hxe hye hr hSm hP2 hF2 hB3 hB4 hsb hTx hTy hSy hb
          go_wp2_with fail
          refine wp_region_inv (Inv := fun Lb a W => ∃ (b0 b1 b2 b3 b4 b5 b6 b7 b8 b9 b10 b11 b12 b13 b14 b15 b16 b17 b18 b19 : Bool) (G17 : Nat), Lb = #[b0, b1, b2, b3, b4, b5, b6, b7, b8, b9, b10, b11, b12, b13, b14, b15, b16, b17, b18, b19] ∧ a = { tmps := #[Value.slice A c.length ca, Value.slice (some ⟨b, off, none⟩) l.length cb, undef, undef, u4, u5, Value.bool G, Value.int IntKind.i64 ↑i, Value.int IntKind.i64 (S + Sy), Value.int IntKind.i64 ↑m, (bif b17 then .pointer (some ⟨G17, 0, none⟩) else u10), (bif b19 then .int .i64 ve else u11), Value.slice A c.length ca, Value.bool true, Value.bool false, Value.bool false, Value.slice (some ⟨b, off, none⟩) l.length cb, Value.bool true, Value.bool false, Value.bool false, Value.int IntKind.i64 ↑i, Value.slice (some ⟨b, off, none⟩) l.length cb, Value.int IntKind.i64 ↑l.length, Value.bool true, u24, u25, Value.int IntKind.i64 ↑i, Value.int IntKind.i64 ↑m, Value.slice (some ⟨b, off, none⟩) l.length cb, Value.int IntKind.i64 ↑l.length, Value.bool true, u31, u32, Value.int IntKind.i64 S, Value.slice (some ⟨b, off, none⟩) l.length cb, Value.int IntKind.i64 ↑m, Value.pointer (some ⟨b, off + m * 3, none⟩), Value.pointer (some ⟨b, off + m * 3 + 2, none⟩), Value.int IntKind.i64 Sy, Value.int IntKind.i64 (S + Sy), (bif b14 then .tuple #[.agg #[.int .i64 vn, .int .i64 vd], .int .i64 ve] else u40), (bif b0 then .slice A c.length ca else u41), (bif b1 then .slice (some ⟨b, off, none⟩) l.length cb else u42), (bif b2 then .int .i64 (m : Nat) else u43), (bif b3 then .pointer (some ⟨b, off + m * 3, none⟩) else u44), (bif b4 then .pointer (some ⟨b, off + m * 3, none⟩) else u45), (bif b5 then .int .i64 Ty else u46), (bif b6 then .slice (some ⟨b, off, none⟩) l.length cb else u47), (bif b7 then .int .i64 (i : Nat) else u48), (bif b8 then .pointer (some ⟨b, off + i * 3, none⟩) else u49), (bif b9 then .pointer (some ⟨b, off + i * 3, none⟩) else u50), (bif b10 then .int .i64 Tx else u51), (bif b11 then .int .i64 (Ty - Tx) else u52), (bif b12 then .agg #[.int .i64 (Ty - Tx), .int .i64 1] else u53), (bif b13 then .tuple #[.agg #[.int .i64 vn, .int .i64 vd], .int .i64 ve] else u54), (bif b15 then .agg #[.int .i64 vn, .int .i64 vd] else u55), (bif b16 then .int .i64 ve else u56), u57, u58, u59, u60, u61, u62, u63, u64, undef], defers := [] } ∧ (b18 = true → b17 = true) ∧ Below wr.heap.size wr W ∧ (b17 = true → wr.heap.size ≤ G17 ∧ G17 < W.heap.size ∧ (b18 = false → BoxN W G17 25 #[.int .i64 0, .int .i64 0]) ∧ (b18 = true → BoxN W G17 25 #[.int .i64 vn, .int .i64 vd]))) (by kernel_rfl) (down_of (by decide +kernel)) ?start ?size ?done ?step
          case start => exact ⟨false, false, false, false, false, false, false, false, false, false, false, false, false, false, false, false, false, false, false, false, 0, rfl, rfl, by simp, (Below.refl _ _).drew, by simp⟩
          case size =>
            rintro Lb aR W ⟨b0, b1, b2, b3, b4, b5, b6, b7, b8, b9, b10, b11, b12, b13, b14, b15, b16, b17, b18, b19, G17, rfl, -⟩
            rfl
          case step =>
            rintro Lb aR W i o ⟨b0, b1, b2, b3, b4, b5, b6, b7, b8, b9, b10, b11, b12, b13, b14, b15, b16, b17, b18, b19, G17, rfl, rfl, p18, f0, f1⟩ ho hl' hdep
            have hi' : i < 20 := (Array.getElem?_eq_some_iff.1 ho).1
            have hi2 : i = 0 ∨ i = 1 ∨ i = 2 ∨ i = 3 ∨ i = 4 ∨ i = 5 ∨ i = 6 ∨ i = 7 ∨ i = 8 ∨ i = 9 ∨ i = 10 ∨ i = 11 ∨ i = 12 ∨ i = 13 ∨ i = 14 ∨ i = 15 ∨ i = 16 ∨ i = 17 ∨ i = 18 ∨ i = 19 := by omega
            clear hi'
            replace p18 := Lib.hid p18
            replace f0 := Lib.hid f0
            replace f1 := Lib.hid f1
            rcases hi2 with rfl | rfl | rfl | rfl | rfl | rfl | rfl | rfl | rfl | rfl | rfl | rfl | rfl | rfl | rfl | rfl | rfl | rfl | rfl | rfl
            · cases ho
              obtain rfl : b0 = false := hl'
              clear hdep
              refine wpOp_step rfl (fun K hK => ?_)
              go_simp
              refine hK _ _ ?_; clear hK K
              exact ⟨true, b1, b2, b3, b4, b5, b6, b7, b8, b9, b10, b11, b12, b13, b14, b15, b16, b17, b18, b19, G17, rfl, rfl, p18.out, f0.out, f1.out⟩
            · cases ho
              obtain rfl : b1 = false := hl'
              clear hdep
              refine wpOp_step rfl (fun K hK => ?_)
              go_simp
              refine hK _ _ ?_; clear hK K
              exact ⟨b0, true, b2, b3, b4, b5, b6, b7, b8, b9, b10, b11, b12, b13, b14, b15, b16, b17, b18, b19, G17, rfl, rfl, p18.out, f0.out, f1.out⟩
            · cases ho
              obtain rfl : b2 = false := hl'
              clear hdep
              refine wpOp_step rfl (fun K hK => ?_)
              go_simp
              refine hK _ _ ?_; clear hK K
              exact ⟨b0, b1, true, b3, b4, b5, b6, b7, b8, b9, b10, b11, b12, b13, b14, b15, b16, b17, b18, b19, G17, rfl, rfl, p18.out, f0.out, f1.out⟩
            · cases ho
              obtain rfl : b3 = false := hl'
              obtain rfl : b1 = true := hdep ⟨1, .data⟩ (by simp) rfl
              obtain rfl : b2 = true := hdep ⟨2, .data⟩ (by simp) rfl
              clear hdep
              refine wpOp_step rfl (fun K hK => ?_)
              simp only [cond_true]
              go_simp
              refine hK _ _ ?_; clear hK K
              exact ⟨b0, true, true, true, b4, b5, b6, b7, b8, b9, b10, b11, b12, b13, b14, b15, b16, b17, b18, b19, G17, rfl, rfl, p18.out, f0.out, f1.out⟩
            · cases ho
              obtain rfl : b4 = false := hl'
              obtain rfl : b3 = true := hdep ⟨3, .data⟩ (by simp) rfl
              clear hdep
              refine wpOp_step rfl (fun K hK => ?_)
              simp only [cond_true]
              go_simp
              refine hK _ _ ?_; clear hK K
              exact ⟨b0, b1, b2, true, true, b5, b6, b7, b8, b9, b10, b11, b12, b13, b14, b15, b16, b17, b18, b19, G17, rfl, rfl, p18.out, f0.out, f1.out⟩
            · cases ho
              obtain rfl : b5 = false := hl'
              obtain rfl : b4 = true := hdep ⟨4, .data⟩ (by simp) rfl
              clear hdep
              have c0 := (f0.out.cell (hbz)).trans d0
              refine wpOp_step rfl (fun K hK => ?_)
              simp only [cond_true]
              go_simp
              refine hK _ _ ?_; clear hK K
              exact ⟨b0, b1, b2, b3, true, true, b6, b7, b8, b9, b10, b11, b12, b13, b14, b15, b16, b17, b18, b19, G17, rfl, rfl, p18.out, f0.out, f1.out⟩
            · cases ho
              obtain rfl : b6 = false := hl'
              clear hdep
              refine wpOp_step rfl (fun K hK => ?_)
              go_simp
              refine hK _ _ ?_; clear hK K
              exact ⟨b0, b1, b2, b3, b4, b5, true, b7, b8, b9, b10, b11, b12, b13, b14, b15, b16, b17, b18, b19, G17, rfl, rfl, p18.out, f0.out, f1.out⟩
            · cases ho
              obtain rfl : b7 = false := hl'
              clear hdep
              refine wpOp_step rfl (fun K hK => ?_)
              go_simp
              refine hK _ _ ?_; clear hK K
              exact ⟨b0, b1, b2, b3, b4, b5, b6, true, b8, b9, b10, b11, b12, b13, b14, b15, b16, b17, b18, b19, G17, rfl, rfl, p18.out, f0.out, f1.out⟩
            · cases ho
              obtain rfl : b8 = false := hl'
              obtain rfl : b6 = true := hdep ⟨6, .data⟩ (by simp) rfl
              obtain rfl : b7 = true := hdep ⟨7, .data⟩ (by simp) rfl
              clear hdep
              refine wpOp_step rfl (fun K hK => ?_)
              simp only [cond_true]
              go_simp
              refine hK _ _ ?_; clear hK K
              exact ⟨b0, b1, b2, b3, b4, b5, true, true, true, b9, b10, b11, b12, b13, b14, b15, b16, b17, b18, b19, G17, rfl, rfl, p18.out, f0.out, f1.out⟩
            · cases ho
              obtain rfl : b9 = false := hl'
              obtain rfl : b8 = true := hdep ⟨8, .data⟩ (by simp) rfl
              clear hdep
              refine wpOp_step rfl (fun K hK => ?_)
              simp only [cond_true]
              go_simp
              refine hK _ _ ?_; clear hK K
              exact ⟨b0, b1, b2, b3, b4, b5, b6, b7, true, true, b10, b11, b12, b13, b14, b15, b16, b17, b18, b19, G17, rfl, rfl, p18.out, f0.out, f1.out⟩
            · cases ho
              obtain rfl : b10 = false := hl'
              obtain rfl : b9 = true := hdep ⟨9, .data⟩ (by simp) rfl
              clear hdep
              have c0 := (f0.out.cell (hbz)).trans c0
              refine wpOp_step rfl (fun K hK => ?_)
              simp only [cond_true]
              go_simp
              refine hK _ _ ?_; clear hK K
              exact ⟨b0, b1, b2, b3, b4, b5, b6, b7, b8, true, true, b11, b12, b13, b14, b15, b16, b17, b18, b19, G17, rfl, rfl, p18.out, f0.out, f1.out⟩
            · cases ho
              obtain rfl : b11 = false := hl'
              obtain rfl : b5 = true := hdep ⟨5, .data⟩ (by simp) rfl
              obtain rfl : b10 = true := hdep ⟨10, .data⟩ (by simp) rfl
              clear hdep
              refine wpOp_step rfl (fun K hK => ?_)
              simp only [cond_true]
              go_simp
              refine hK _ _ ?_; clear hK K
              exact ⟨b0, b1, b2, b3, b4, true, b6, b7, b8, b9, true, true, b12, b13, b14, b15, b16, b17, b18, b19, G17, rfl, rfl, p18.out, f0.out, f1.out⟩
            · cases ho
              obtain rfl : b12 = false := hl'
              obtain rfl : b11 = true := hdep ⟨11, .data⟩ (by simp) rfl
              clear hdep
              refine wpOp_step rfl (fun K hK => ?_)
              simp only [cond_true]
              go_simp
              refine hK _ _ ?_; clear hK K
              exact ⟨b0, b1, b2, b3, b4, b5, b6, b7, b8, b9, b10, true, true, b13, b14, b15, b16, b17, b18, b19, G17, rfl, rfl, p18.out, f0.out, f1.out⟩
            · cases ho
              obtain rfl : b13 = false := hl'
              obtain rfl : b0 = true := hdep ⟨0, .data⟩ (by simp) rfl
              obtain rfl : b12 = true := hdep ⟨12, .data⟩ (by simp) rfl
              clear hdep
              refine wpOp_step rfl (fun K hK => ?_)
              simp only [cond_true]
              go_simp
              (with_reducible refine (HAx.out _ (hHB4.out.trans (f0.out.mono hHB4.out.size))).mono ?_); rintro e w4 ⟨rfl, hb⟩
              refine hK _ _ ?_; clear hK K
              exact ⟨true, b1, b2, b3, b4, b5, b6, b7, b8, b9, b10, b11, true, true, b14, b15, b16, b17, b18, b19, G17, rfl, rfl, p18.out, f0.out.trans (hb.mono f0.out.size), fun h => ⟨(f1.out h).1, Nat.lt_of_lt_of_le (f1.out h).2.1 hb.size, fun e => ((f1.out h).2.2.1 e).below hb (f1.out h).2.1, fun e => ((f1.out h).2.2.2 e).below hb (f1.out h).2.1⟩⟩
            · cases ho
              obtain rfl : b14 = false := hl'
              obtain rfl : b13 = true := hdep ⟨13, .data⟩ (by simp) rfl
              clear hdep
              refine wpOp_step rfl (fun K hK => ?_)
              simp only [cond_true]
              go_simp
              refine hK _ _ ?_; clear hK K
              exact ⟨b0, b1, b2, b3, b4, b5, b6, b7, b8, b9, b10, b11, b12, true, true, b15, b16, b17, b18, b19, G17, rfl, rfl, p18.out, f0.out, f1.out⟩
            · cases ho
              obtain rfl : b15 = false := hl'
              obtain rfl : b14 = true := hdep ⟨14, .data⟩ (by simp) rfl
              clear hdep
              refine wpOp_step rfl (fun K hK => ?_)
              simp only [cond_true]
              go_simp
              refine hK _ _ ?_; clear hK K
              exact ⟨b0, b1, b2, b3, b4, b5, b6, b7, b8, b9, b10, b11, b12, b13, true, true, b16, b17, b18, b19, G17, rfl, rfl, p18.out, f0.out, f1.out⟩
            · cases ho
              obtain rfl : b16 = false := hl'
              obtain rfl : b14 = true := hdep ⟨14, .data⟩ (by simp) rfl
              clear hdep
              refine wpOp_step rfl (fun K hK => ?_)
              simp only [cond_true]
              go_simp
              refine hK _ _ ?_; clear hK K
              exact ⟨b0, b1, b2, b3, b4, b5, b6, b7, b8, b9, b10, b11, b12, b13, true, b15, true, b17, b18, b19, G17, rfl, rfl, p18.out, f0.out, f1.out⟩
            · cases ho
              obtain rfl : b17 = false := hl'
              clear hdep
              obtain rfl : b18 = false := by cases b18 with | false => rfl | true => exact absurd (p18.out rfl) (by simp)
              refine wpOp_step rfl (fun K hK => ?_)
              go_simp
              refine hK _ _ ?_; clear hK K
              exact ⟨b0, b1, b2, b3, b4, b5, b6, b7, b8, b9, b10, b11, b12, b13, b14, b15, b16, true, false, b19, W.heap.size, rfl, rfl, by simp, f0.out.alloc f0.out.size _, fun _ => ⟨f0.out.size, by simp, fun _ => BoxN.new W 25 #[.int .i64 0, .int .i64 0], by simp⟩⟩
            · cases ho
              obtain rfl : b18 = false := hl'
              obtain rfl : b17 = true := hdep ⟨17, .data⟩ (by simp) rfl
              obtain rfl : b15 = true := hdep ⟨15, .data⟩ (by simp) rfl
              clear hdep
              obtain ⟨hle, hlt, hbz, -⟩ := f1.out rfl
              have bS := hbz rfl
              clear hbz
              have z0 := bS.cell 0
              have y0 := bS.frozen 0
              have z1 := bS.cell 1
              have y1 := bS.frozen 1
              refine wpOp_step rfl (fun K hK => ?_)
              simp only [cond_true]
              go_simp
              refine hK _ _ ?_; clear hK K
              exact ⟨b0, b1, b2, b3, b4, b5, b6, b7, b8, b9, b10, b11, b12, b13, b14, true, b16, true, true, b19, G17, rfl, rfl, by simp, ((f0.out.setCell (p := ⟨G17, 0, none⟩) hle (.int .i64 vn)).setCell (p := ⟨G17, 1, none⟩) hle (.int .i64 vd)), fun _ => ⟨hle, by simpa using hlt, by simp, fun _ => bS.set2 (.int .i64 vn) (.int .i64 vd)⟩⟩
            · cases ho
              obtain rfl : b19 = false := hl'
              obtain rfl : b16 = true := hdep ⟨16, .data⟩ (by simp) rfl
              clear hdep
              refine wpOp_step rfl (fun K hK => ?_)
              simp only [cond_true]
              go_simp
              refine hK _ _ ?_; clear hK K
              exact ⟨b0, b1, b2, b3, b4, b5, b6, b7, b8, b9, b10, b11, b12, b13, b14, b15, true, b17, b18, true, G17, rfl, rfl, p18.out, f0.out, f1.out⟩
          case done =>
            rintro Lb aR W ⟨j0, j1, j2, j3, j4, j5, j6, j7, j8, j9, j10, j11, j12, j13, j14, j15, j16, j17, j18, j19, G17, rfl, rfl, -, f0, f1⟩ hall
            obtain rfl : j0 = true := hall 0 (by decide)
            obtain rfl : j1 = true := hall 1 (by decide)
            obtain rfl : j2 = true := hall 2 (by decide)
            obtain rfl : j3 = true := hall 3 (by decide)
            obtain rfl : j4 = true := hall 4 (by decide)
            obtain rfl : j5 = true := hall 5 (by decide)
            obtain rfl : j6 = true := hall 6 (by decide)
            obtain rfl : j7 = true := hall 7 (by decide)
            obtain rfl : j8 = true := hall 8 (by decide)
            obtain rfl : j9 = true := hall 9 (by decide)
            obtain rfl : j10 = true := hall 10 (by decide)
            obtain rfl : j11 = true := hall 11 (by decide)
            obtain rfl : j12 = true := hall 12 (by decide)
            obtain rfl : j13 = true := hall 13 (by decide)
            obtain rfl : j14 = true := hall 14 (by decide)
            obtain rfl : j15 = true := hall 15 (by decide)
            obtain rfl : j16 = true := hall 16 (by decide)
            obtain rfl : j17 = true := hall 17 (by decide)
            obtain rfl : j18 = true := hall 18 (by decide)
            obtain rfl : j19 = true := hall 19 (by decide)
            clear hall
            obtain ⟨-, -, -, hbx⟩ := f1 rfl
            replace hbx := hbx rfl
            have hB5 := Lib.hid (hHB3.out.trans (f0.mono hHB3.out.size))
            have hB6 := Lib.hid (hHB4.out.trans (f0.mono hHB4.out.size))
            have q0 := hbx.cell 0
            have q1 := hbx.cell 1
            have q2 := hbx.lt
            clear f0 f1 c0 d0 hbx
            simp only [cond_true]
            obtain ⟨Y5, hY5⟩ : ∃ Y, Y = W := ⟨_, rfl⟩
            obtain ⟨g17, hg17⟩ : ∃ g, g = G17 := ⟨_, rfl⟩
            subst hY5 hg17
            by_cases hokc : okc c (Ty - Tx)
            · have e1 : atV c ((Ty - Tx : Int) : Rat) = _ := if_pos hokc
              rw [Hav.out] at e1
              simp only [Prod.mk.injEq] at e1
              obtain ⟨rfl, rfl, rfl⟩ := e1
              have hfit : Fit (minV c ((Ty - Tx : Int) : Rat)) := minV_fit hokc hcne
              have HCx := Lib.hid (fun W => HCm.out (S + Sy) _ W ⟨by omega, by omega⟩ hfit)
              have hPm := Lib.hid (hPn.out hokc)
              have hcq : Hid (cmpQ ((S + Sy : Int) : Rat) (minV c ((Ty - Tx : Int) : Rat)) ≤ 0 ↔ ((S + Sy : Int) : Rat) ≤ minV c ((Ty - Tx : Int) : Rat)) := cmpQ_le
              generalize (minV c ((Ty - Tx : Int) : Rat)).num = vn at *
              generalize ((minV c ((Ty - Tx : Int) : Rat)).den : Int) = vd at *
              obtain ⟨kq, hkq⟩ : ∃ k, cmpQ ((S + Sy : Int) : Rat) (minV c ((Ty - Tx : Int) : Rat)) = k := ⟨_, rfl⟩
              rw [hkq] at HCx hcq
              clear hkq hfit
              go_wp2_with fail
              (with_reducible refine (HCx.out _).mono ?_); rintro _ Z ⟨rfl, hbz2⟩
              have hB7 := Lib.hid (hB5.out.trans (hbz2.mono hB5.out.size))
              clear hbz2 q0 q1
              by_cases hk0 : 0 < kq
              · have hkd : decide (0 < kq) = true := decide_eq_true hk0
                have hF3 := Lib.hid (hFn.out false ⟨fun h => (by cases h), fun h => (by have := hcq.out.2 h; omega)⟩)
                rw [Bool.and_false] at hF3
                go_wp2_with fail
                go_roundw
                case rel => exact ⟨m + 1, false, S + Sy, by omega, by omega, by go_num, rfl, rfl, by unfold Hid; rw [show m + 1 - i = m - i + 1 by omega]; exact hsn.out, hPm.out, hF3.out, hB7.out⟩
                case measure => simp [intOf]; omega
              · have hkd : decide (0 < kq) = false := decide_eq_false hk0
                have hF3 := Lib.hid (hFn.out true ⟨fun _ => hcq.out.1 (by omega), fun _ => rfl⟩)
                rw [Bool.and_true] at hF3
                go_wp2_with fail
                go_roundw
                case rel => exact ⟨m + 1, G, S + Sy, by omega, by omega, by go_num, rfl, rfl, by unfold Hid; rw [show m + 1 - i = m - i + 1 by omega]; exact hsn.out, hPm.out, hF3.out, hB7.out⟩
                case measure => simp [intOf]; omega
            · have e1 : atV c ((Ty - Tx : Int) : Rat) = _ := if_neg hokc
              rw [Hav.out] at e1
              simp only [Prod.mk.injEq] at e1
              obtain ⟨rfl, rfl, rfl⟩ := e1
              have hCP := Lib.hid (hBad.out hokc)
              go_wp2_with fail
              go_ret2
              exact ⟨⟨_, _, rfl, hCP.out⟩, hB6.out⟩
        · obtain rfl : m = l.length := by omega
          have hP3 : Hid (Pr2 (okP c l) l.length (i + 1) (i + 1)) := Pr2.next.1 hP2.out
          have hF3 : Hid (G = true ↔ Pr2 (fitP c l) l.length (i + 1) (i + 1)) := hF2.out.trans Pr2.next
          have hB7 := Lib.hid (hBz.out.trans (hB3.mono hBz.out.size))
          clear hP2 hF2 hB3 hSm
          go_wp2_with fail
          go_roundw
          case rel => exact ⟨i + 1, G, by omega, by go_num, rfl, hP3.out, hF3.out, hB7.out⟩
          case measure => simp [intOf]; omega
    · obtain rfl : i = l.length := by omega
      have hCP := Lib.hid (conf_of hP.out hF.out)
      have hB6 := Lib.hid (hB2.trans (hB.mono hB2.size))
      clear hP hF hB
      go_wp2_with fail
      go_ret2
      exact ⟨⟨_, _, rfl, hCP.out⟩, hB6.out⟩
end Go.Proofs.YtbncfknjgldcbaaGreat
