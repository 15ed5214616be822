/- The path of a key, handed on by a range function over the levels. -/
import Derived.Test.YtaoipbndmfjmhaaRoot
import Derived.Test.YtaoipbndmfjmhaaInvI
namespace Go.Proofs.Ytaoipbndmfjmhaa
open Go.RowKit Go.Joins
attribute [local go_sem] Oper.semAt_some

set_option maxRecDepth 100000 in
theorem path_any (seed : BitVec 64) (h q : Int) (w : World) :
    Calls Try.prog 45 #[U64 seed, .int .i64 h, .int .i64 q] w fun e w' => e = .returned (.func (.func 62) #[] #[.pointer (some ⟨w.heap.size + 1 + 1, 0, none⟩), .pointer (some ⟨w.heap.size, 0, none⟩), .pointer (some ⟨w.heap.size + 1, 0, none⟩)]) ∧
      w' = ((w.alloc (.cells #[U64 seed] 22)).alloc (.cells #[.int .i64 h] 3)).alloc (.cells #[.int .i64 q] 3) := by
  go_enter Try.func45, Try.ntmps45
  go_wp2
  go_ret
  exact ⟨rfl, rfl⟩

theorem Ch.drew {B S : Nat} {A C : World} (h : Ch B S A C) : Ch B S A C.drew := ⟨h.b.drew, h.same⟩
/-- The sibling of a node. -/
def sb (m : Nat) : Nat := if m % 2 = 0 then m + 1 else m - 1
theorem sb_xor (m : Nat) (hm : m < 64) : bits .xor .i64 (m : Int) 1 = (sb m : Int) :=
  (show ∀ m : Fin 64, bits .xor .i64 (m.val : Int) 1 = (sb m.val : Int) by decide) ⟨m, hm⟩
theorem sb_lt {m n : Nat} (h : m < 2 * n) : sb m < 2 * n := by unfold sb; split <;> omega
theorem yieldAt_wide {n m : Nat} {P : Program} {l : Nat} {args : Array Value} {W : World} {R : Ending → World → Prop} (h : YieldAt Fence.wide n P l args W R) : YieldAt Fence.wide m P l args W R := by
  obtain ⟨fn, tmps, assign, body, hy, h1, h2⟩ := h
  exact ⟨fn, tmps, assign, body, hy, h1, fun c cs _ => h2 c cs (room_wide _)⟩
def PathEnc (x : BitVec 64) (_ : Nat) (_ _ : World) (v : Array Value) : Prop := v = #[U64 x]
theorem path_get (seed : BitVec 64) (h q j : Nat) (hj : j < h) (hq : q < 2 ^ h) : (lev (leaves seed h) j)[sb (q / 2 ^ j)]? = some (node seed h j (sib q j)) := by
  have hl := lev_len (leaves seed h) h (leaves_len seed h) j (by omega)
  have hlt : q / 2 ^ j < 2 * 2 ^ (h - (j + 1)) := by
    rw [Nat.div_lt_iff_lt_mul (Nat.two_pow_pos j), Nat.mul_assoc, ← Nat.pow_add, show h - (j + 1) + j = h - 1 by omega]
    have : 2 ^ h = 2 * 2 ^ (h - 1) := by rw [← Nat.pow_succ']; congr 1; omega
    omega
  have h2 : (lev (leaves seed h) j).length = 2 * 2 ^ (h - (j + 1)) := by rw [hl, show h - j = (h - (j + 1)) + 1 by omega, Nat.pow_succ]; omega
  have h3 : sb (q / 2 ^ j) < (lev (leaves seed h) j).length := by rw [h2]; exact sb_lt hlt
  rw [List.getElem?_eq_getElem h3]
  unfold node
  rw [List.getD_eq_getElem?_getD, show sib q j = sb (q / 2 ^ j) from rfl, List.getElem?_eq_getElem h3]
  rfl

set_option maxRecDepth 100000 in
set_option maxHeartbeats 4000000 in
theorem path1_in (n : Nat) (hn : 6 ≤ n) (l bs bh bq : Nat) (seed : BitVec 64) (h q : Nat) (hh : h ≤ 6) (hq : q < 2 ^ h) (J : Nat → List (BitVec 64) → World → Prop) (D : Nat → World → Prop) (W : World)
    (hJ : ∀ S s A C, W.heap.size ≤ S → J S s A → Ch W.heap.size S A C → J S s C) (hD : ∀ S A C, W.heap.size ≤ S → D S A → Ch W.heap.size S A C → D S C)
    (hY : ∀ S pre x A W1 v, W.heap.size ≤ S → S ≤ W1.heap.size → A.heap.size ≤ W1.heap.size → J S pre A → Ch W.heap.size S A W1 → pre ++ [x] <+: pathV seed h q → PathEnc x S A W1 v →
      YieldAt Fence.wide (n - 1) Try.prog l v W1 fun e W' => Gk W.heap.size S A W1 W' ∧ ((e = .returned (.bool true) ∧ J S (pre ++ [x]) W') ∨ (e = .returned (.bool false) ∧ D S W')))
    (hs : BoxN W bs 22 #[U64 seed]) (hhb : BoxN W bh 3 #[.int .i64 (h : Int)]) (hqb : BoxN W bq 3 #[.int .i64 (q : Int)]) (h0 : ∀ S, W.heap.size ≤ S → J S [] W) :
    CallsIn Fence.wide n Try.prog 62 #[.func (.yield l) #[] #[], .pointer (some ⟨bq, 0, none⟩), .pointer (some ⟨bs, 0, none⟩), .pointer (some ⟨bh, 0, none⟩)] W fun e W' => (∃ v, e = .returned v) ∧ ∃ S, W.heap.size ≤ S ∧ (J S (pathV seed h q) W' ∨ D S W') := by
  have hro : Fence.wide.round = none := rfl
  have HL : Hid (∀ W : World, _) := fun W => levels_any seed (h : Int) W
  have HY := Lib.hid hY
  have H0 := Lib.hid h0
  have HJ := Lib.hid hJ
  have HD := Lib.hid hD
  clear hY h0 hJ hD
  have cs := hs.cell 0
  have ch := hhb.cell 0
  have cq := hqb.cell 0
  simp at cs ch cq
  have hsl := hs.lt
  have hhl := hhb.lt
  have hql := hqb.lt
  have hz : ∀ w : World, (zeroValue 3).run Try.prog w = .ok (.int .i64 0) w := fun _ => by kernel_rfl
  refine callsIn_of_wp_marks Try.func62 rfl trivial ?_ hro
  simp only [Try.ntmps62, List.size_toArray, List.length_cons, List.length_nil, Nat.reduceAdd, Nat.reduceSub, Array.replicate_succ, Array.replicate_zero, List.push_toArray, List.append_toArray, List.nil_append, List.cons_append]
  have hn1 : 1 ≤ n := by omega
  gi_wp2_with fail
  refine ⟨trivial, ?_⟩
  clear hz
  have b0 : BoxN ((W.alloc (.cells #[.func (.yield l) #[] #[]] 96)).alloc (.cells #[.int .i64 (q : Int)] 3)) W.heap.size 96 #[.func (.yield l) #[] #[]] := (BoxN.new W _ _).alloc _
  have b1 : BoxN ((W.alloc (.cells #[.func (.yield l) #[] #[]] 96)).alloc (.cells #[.int .i64 (q : Int)] 3)) (W.heap.size + 1) 3 #[.int .i64 (q : Int)] := by
    have := BoxN.new (W.alloc (.cells #[.func (.yield l) #[] #[]] 96)) 3 #[.int .i64 (q : Int)]
    rwa [World.size_alloc] at this
  have hB : Below W.heap.size W ((W.alloc (.cells #[.func (.yield l) #[] #[]] 96)).alloc (.cells #[.int .i64 (q : Int)] 3)) := ((Below.refl _ W).alloc (Nat.le_refl _) _).alloc (by simp) _
  have hsz : ((W.alloc (.cells #[.func (.yield l) #[] #[]] 96)).alloc (.cells #[.int .i64 (q : Int)] 3)).heap.size = W.heap.size + 2 := by simp
  generalize (W.alloc (.cells #[.func (.yield l) #[] #[]] 96)).alloc (.cells #[.int .i64 (q : Int)] 3) = w1 at b0 b1 hB hsz ⊢
  (with_reducible refine (callsIn_wide.2 (HL.out _)).mono ?_); rintro e w2 ⟨rfl, rfl⟩
  have c_s := (BoxN.new w1 22 #[U64 seed]).alloc (.cells #[.int .i64 (h : Int)] 3)
  have c_h : BoxN ((w1.alloc (.cells #[U64 seed] 22)).alloc (.cells #[.int .i64 (h : Int)] 3)) (w1.heap.size + 1) 3 #[.int .i64 (h : Int)] := by
    have := BoxN.new (w1.alloc (.cells #[U64 seed] 22)) 3 #[.int .i64 (h : Int)]
    rwa [World.size_alloc] at this
  replace b0 := (b0.alloc (.cells #[U64 seed] 22)).alloc (.cells #[.int .i64 (h : Int)] 3)
  replace b1 := (b1.alloc (.cells #[U64 seed] 22)).alloc (.cells #[.int .i64 (h : Int)] 3)
  replace hB := (hB.alloc (by omega) (.cells #[U64 seed] 22)).alloc (by simp; omega) (.cells #[.int .i64 (h : Int)] 3)
  gi_wp2_with fail
  have hsz2 : ((w1.alloc (.cells #[U64 seed] 22)).alloc (.cells #[.int .i64 (h : Int)] 3)).heap.size = W.heap.size + 4 := by simp; omega
  generalize (w1.alloc (.cells #[U64 seed] 22)).alloc (.cells #[.int .i64 (h : Int)] 3) = W0 at c_s c_h b0 b1 hB hsz2 ⊢
  rw [hsz] at c_s c_h
  clear hsz
  generalize W.heap.size + 2 = g2 at c_s c_h ⊢
  have h0l := b0.lt
  have h1l := b1.lt
  refine wpIn_handsG hro hn1 (gf := 60) (lb := #[.pointer (some ⟨g2 + 1, 0, none⟩), .pointer (some ⟨g2, 0, none⟩)]) rfl trivial (enters_of Try.func60 (by kernel_rfl) rfl)
    (lev_hands (n - 1) (by omega) g2 (g2 + 1) seed h hh W0 c_s c_h) (Below.refl _ _) (fun x S A W v ⟨g, _, _, _, hv⟩ => by subst hv; rfl) (fun x S A W v l r r' hE hl hr => lev_enc_put x S A W v l r r' hE hl hr)
    (fun S pre A => pre.length ≤ h ∧ BoxN A (W.heap.size + 1) 3 #[.int .i64 ((q / 2 ^ pre.length : Nat) : Int)] ∧ BoxN A W.heap.size 96 #[.func (.yield l) #[] #[]] ∧ J S ((pathV seed h q).take pre.length) A)
    (fun S A => J S (pathV seed h q) A ∨ D S A) ?hJ ?hD ?h0
    (fun v a' => ∃ x, v = #[x] ∧ a' = { tmps := #[.func (.yield l) #[] #[], .pointer (some ⟨bq, 0, none⟩), .pointer (some ⟨bs, 0, none⟩), .pointer (some ⟨bh, 0, none⟩), .pointer (some ⟨W.heap.size, 0, none⟩), .pointer (some ⟨W.heap.size + 1, 0, none⟩), x, .int .i64 (q : Int), U64 seed, .int .i64 (h : Int), .func (.func 60) #[] #[.pointer (some ⟨g2 + 1, 0, none⟩), .pointer (some ⟨g2, 0, none⟩)], x, undef, undef, undef, undef, undef, undef, undef, undef, undef, undef, undef, undef, undef, undef, undef], defers := [] })
    ?assign ?body ?done ?stop
  case hJ =>
    rintro S pre A C hS ⟨h1, h2, h3, h4⟩ hk
    exact ⟨h1, (hk.b.block _ (by omega)).trans h2, (hk.b.block _ (by omega)).trans h3, HJ.out S _ A C (by omega) h4 (hk.mono (by omega) (Nat.le_refl _))⟩
  case hD =>
    rintro S A C hS (h1 | h1) hk
    · exact .inl (HJ.out S _ A C (by omega) h1 (hk.mono (by omega) (Nat.le_refl _)))
    · exact .inr (HD.out S A C (by omega) h1 (hk.mono (by omega) (Nat.le_refl _)))
  case h0 =>
    intro S hS
    exact ⟨Nat.zero_le _, by simpa using b1, b0, by simpa using HJ.out S _ W W0 (by omega) (H0.out S (by omega)) (Ch.below hB (Nat.le_refl _))⟩
  case assign =>
    rintro l S x A W v K ⟨g, _, _, _, rfl⟩ hK
    have hK' := Lib.hid hK
    clear hK
    gi_wp2_with fail
    exact hK'.out _ ⟨_, rfl, rfl⟩
  case body =>
    rintro l2 S pre x v a' A Wr hS hSW hAW ⟨hj, b1A, b0A, hJA⟩ hch ⟨y, rfl, rfl⟩ hpre ⟨g, hSg, hAg, bg, hv⟩
    obtain rfl : y = .slice (some ⟨g, 0, none⟩) x.length x.length := by simpa using hv
    have b0r : BoxN Wr W.heap.size 96 #[.func (.yield l) #[] #[]] := (hch.b.block _ (by omega)).trans b0A
    have b1r : BoxN Wr (W.heap.size + 1) 3 #[.int .i64 ((q / 2 ^ pre.length : Nat) : Int)] := (hch.b.block _ (by omega)).trans b1A
    have hx : x = lev (leaves seed h) pre.length := by
      obtain ⟨t, ht⟩ := hpre
      have e1 : (levL seed h)[pre.length]? = some x := by rw [← ht]; simp
      rw [levL_get seed h pre.length hj] at e1
      exact (Option.some.inj e1).symm
    have hlx : x.length = 2 ^ (h - pre.length) := by rw [hx]; exact lev_len (leaves seed h) h (leaves_len seed h) pre.length hj
    have c0 := b0r.cell 0
    simp at c0
    by_cases hjh : pre.length < h
    · have hq64 : q / 2 ^ pre.length < 64 := by
        have h1 := Nat.div_le_self q (2 ^ pre.length)
        have h2 : 2 ^ h ≤ 2 ^ 6 := Nat.pow_le_pow_right (by decide) hh
        omega
      have hxor := sb_xor _ hq64
      have hgz := path_get seed h q pre.length hjh hq
      rw [← hx] at hgz
      have hs1 : sb (q / 2 ^ pre.length) < x.length := (List.getElem?_eq_some_iff.1 hgz).1
      have cg := bg.cell (sb (q / 2 ^ pre.length))
      rw [rowQ_get x _ _ hgz] at cg
      have hpz : (pathV seed h q)[pre.length]? = some (node seed h pre.length (sib q pre.length)) := wds_get _ _ _ hjh
      have hsn : (pathV seed h q).take pre.length ++ [node seed h pre.length (sib q pre.length)] = (pathV seed h q).take (pre.length + 1) := (take_snoc' hpz).symm
      have hpo : (pathV seed h q).take pre.length ++ [node seed h pre.length (sib q pre.length)] <+: pathV seed h q := by rw [hsn]; exact List.take_prefix _ _
      have hYd := HY.out S _ _ A Wr.drew #[U64 (node seed h pre.length (sib q pre.length))] (by omega) hSW hAW hJA ((hch.mono (by omega) (Nat.le_refl _)).drew) hpo rfl
      rw [hsn] at hYd
      have hlen2 : Hid ((pre ++ [x]).length = pre.length + 1) := by unfold Hid; simp
      have hdiv : Hid (((q / 2 ^ pre.length : Nat) : Int) / 2 = ((q / 2 ^ (pre.length + 1) : Nat) : Int)) := by
        unfold Hid; rw [Nat.pow_succ, ← Nat.div_div_eq_div_mul]; omega
      obtain ⟨fn, ytmps, yassign, ybody, hyy, hR1, hR2⟩ := hYd
      have HRR : Hid (∀ k, RoundIn (Fence.wide.inRound l2) k Try.prog l fn ytmps yassign ybody Wr.drew fun e W' => Gk W.heap.size S A Wr.drew W' ∧ ((e = .returned (.bool true) ∧ J S ((pathV seed h q).take (pre.length + 1)) W') ∨ (e = .returned (.bool false) ∧ D S W'))) := fun k => ⟨hR1, fun c cs _ => hR2 c cs (room_wide _)⟩
      clear hR1 hR2 hpo hsn hpz hgz bg hJA
      have hn1' : x.length ≠ 1 := by
        rw [hlx, show h - pre.length = (h - (pre.length + 1)) + 1 by omega, Nat.pow_succ]
        have := Nat.one_le_two_pow (n := h - (pre.length + 1))
        omega
      have hd : ((x.length : Int) == 1) = false := by simp; omega
      have hgA : W.heap.size + 1 < A.heap.size := b1A.lt
      clear hx hlx
      generalize node seed h pre.length (sib q pre.length) = z at *
      generalize sb (q / 2 ^ pre.length) = s1 at *
      generalize q / 2 ^ pre.length = mq at *
      have c1 := b1r.cell 0
      simp at c1
      obtain ⟨m2, hm2⟩ : ∃ m2, q / 2 ^ (pre.length + 1) = m2 := ⟨_, rfl⟩
      have e5 := hdiv.out
      rw [hm2] at e5
      have HM2 := Lib.hid hm2
      have Hb0r := Lib.hid b0r
      have Hb1r := Lib.hid b1r
      clear hm2 hdiv b0r b1r
      generalize hnn : x.length = nx at *
      gi_wp2_with fail
      rename_i Kr Ar
      have HT : Hid (∀ W3, Gk W.heap.size S A Wr.drew W3 → J S ((pathV seed h q).take (pre.length + 1)) W3 → Kr { tmps := #[.func (.yield l) #[] #[], .pointer (some ⟨bq, 0, none⟩), .pointer (some ⟨bs, 0, none⟩), .pointer (some ⟨bh, 0, none⟩), .pointer (some ⟨W.heap.size, 0, none⟩), .pointer (some ⟨W.heap.size + 1, 0, none⟩), .slice (some ⟨g, 0, none⟩) nx nx, .int .i64 (q : Int), U64 seed, .int .i64 (h : Int), .func (.func 60) #[] #[.pointer (some ⟨g2 + 1, 0, none⟩), .pointer (some ⟨g2, 0, none⟩)], .slice (some ⟨g, 0, none⟩) nx nx, .slice (some ⟨g, 0, none⟩) nx nx, .int .i64 nx, .bool false, .bool false, .func (.yield l) #[] #[], .slice (some ⟨g, 0, none⟩) nx nx, .int .i64 mq, .int .i64 s1, .pointer (some ⟨g, s1, none⟩), U64 z, .bool true, .bool false, .bool false, undef, undef], defers := [] } W3) := by
        intro W3 hgk hj3
        refine Ar _ _ ?_
        have b1w : BoxN W3 (W.heap.size + 1) 3 #[.int .i64 (mq : Int)] := (hgk.own _ (by omega) (by omega)).trans Hb1r.out
        have b0w : BoxN W3 W.heap.size 96 #[.func (.yield l) #[] #[]] := (hgk.own _ (by omega) (by omega)).trans Hb0r.out
        have c5 := b1w.cell 0
        have f5 := b1w.frozen 0
        have l5 := b1w.lt
        simp at c5
        have k1 := Lib.hid (b1w.set1 0 (.int .i64 (m2 : Int)))
        have k0 := Lib.hid (b0w.far (p := ⟨W.heap.size + 1, 0, none⟩) (by simp) (.int .i64 (m2 : Int)))
        have kG : Hid (Gk W0.heap.size S A Wr (W3.setCell ⟨W.heap.size + 1, 0, none⟩ (.int .i64 (m2 : Int)))) :=
          ⟨by have := hgk.b; simpa using this, fun k h1 h2 => (Below.heap_setCell W3 _ _ k (by simp; omega)).trans (hgk.own k (by omega) h2), fun k h1 h2 => (Below.heap_setCell W3 _ _ k (by simp; omega)).trans (hgk.mine k h1 h2)⟩
        have kJ := Lib.hid (HJ.out S _ W3 (W3.setCell ⟨W.heap.size + 1, 0, none⟩ (.int .i64 (m2 : Int))) (by omega) hj3 (Ch.set W3 ⟨W.heap.size + 1, 0, none⟩ (.int .i64 (m2 : Int)) (by simp) (by simp; omega)))
        clear hj3 b1w b0w hgk c0 c1 hxor cg hyy hd
        gi_wp2_with fail
        refine ⟨kG.out, ?_⟩
        dsimp only
        rw [hlen2.out, HM2.out]
        exact ⟨by omega, k1.out, k0.out, kJ.out⟩
      have HFa : Hid (∀ W3, Gk W.heap.size S A Wr.drew W3 → D S W3 → Kr { tmps := #[.func (.yield l) #[] #[], .pointer (some ⟨bq, 0, none⟩), .pointer (some ⟨bs, 0, none⟩), .pointer (some ⟨bh, 0, none⟩), .pointer (some ⟨W.heap.size, 0, none⟩), .pointer (some ⟨W.heap.size + 1, 0, none⟩), .slice (some ⟨g, 0, none⟩) nx nx, .int .i64 (q : Int), U64 seed, .int .i64 (h : Int), .func (.func 60) #[] #[.pointer (some ⟨g2 + 1, 0, none⟩), .pointer (some ⟨g2, 0, none⟩)], .slice (some ⟨g, 0, none⟩) nx nx, .slice (some ⟨g, 0, none⟩) nx nx, .int .i64 nx, .bool false, .bool false, .func (.yield l) #[] #[], .slice (some ⟨g, 0, none⟩) nx nx, .int .i64 mq, .int .i64 s1, .pointer (some ⟨g, s1, none⟩), U64 z, .bool false, .bool true, .bool true, undef, undef], defers := [] } W3) := by
        intro W3 hgk hd3
        refine Ar _ _ ?_
        have hd4 := Lib.hid hd3
        have kG : Hid (Gk W0.heap.size S A Wr W3) := ⟨hgk.b, fun k h1 h2 => hgk.own k (by omega) h2, fun k h1 h2 => hgk.mine k h1 h2⟩
        clear hd3 hgk c0 c1 hxor cg hyy hd
        gi_wp2_with fail
        exact ⟨kG.out, .inr hd4.out⟩
      clear Ar
      refine wpIn_region_any (by kernel_rfl) ?_
      change wpAnyIn _ _ _ _ _ _ _ _ _ (World.drew _)
      refine wpAnyIn_ready (rs := [0]) (by decide +kernel) (by simp) ?_
      refine AllReadyIn.cons rfl (fun K hK => ?_) AllReadyIn.nil
      go_simp
      refine hK _ _ ?_; clear hK K
      refine wpAnyIn_ready (rs := [1]) (by decide +kernel) (by simp) ?_
      refine AllReadyIn.cons rfl (fun K hK => ?_) AllReadyIn.nil
      go_simp
      refine hK _ _ ?_; clear hK K
      refine wpAnyIn_ready (rs := [2]) (by decide +kernel) (by simp) ?_
      refine AllReadyIn.cons rfl (fun K hK => ?_) AllReadyIn.nil
      go_simp
      refine hK _ _ ?_; clear hK K
      refine wpAnyIn_ready (rs := [3]) (by decide +kernel) (by simp) ?_
      refine AllReadyIn.cons rfl (fun K hK => ?_) AllReadyIn.nil
      go_simp
      refine hK _ _ ?_; clear hK K
      refine wpAnyIn_inv (Inv := fun L a w => ∃ (b4 b5 b6 b7 b8 b9 b10 b11 b12 : Bool) (u22 u23 u24 : Value), L = #[true, true, true, true, b4, b5, b6, b7, b8, b9, b10, b11, b12] ∧ a = { tmps := #[.func (.yield l) #[] #[], .pointer (some ⟨bq, 0, none⟩), .pointer (some ⟨bs, 0, none⟩), .pointer (some ⟨bh, 0, none⟩), .pointer (some ⟨W.heap.size, 0, none⟩), .pointer (some ⟨W.heap.size + 1, 0, none⟩), .slice (some ⟨g, 0, none⟩) nx nx, .int .i64 (q : Int), U64 seed, .int .i64 (h : Int), .func (.func 60) #[] #[.pointer (some ⟨g2 + 1, 0, none⟩), .pointer (some ⟨g2, 0, none⟩)], .slice (some ⟨g, 0, none⟩) nx nx, .slice (some ⟨g, 0, none⟩) nx nx, .int .i64 nx, .bool false, .bool false, (bif b4 then .func (.yield l) #[] #[] else undef), (bif b5 then .slice (some ⟨g, 0, none⟩) nx nx else undef), (bif b6 then .int .i64 mq else undef), (bif b7 then .int .i64 s1 else undef), (bif b8 then .pointer (some ⟨g, s1, none⟩) else undef), (bif b9 then U64 z else undef), u22, u23, u24, undef, undef], defers := [] } ∧ (b7 = true → b6 = true) ∧ (b8 = true → b5 = true ∧ b7 = true) ∧ (b9 = true → b8 = true) ∧
        (b10 = true → b4 = true ∧ b9 = true) ∧ (b10 = false → w = Wr.drew ∧ b11 = false ∧ b12 = false ∧ u22 = undef ∧ u23 = undef ∧ u24 = undef) ∧
        (b10 = true → ∃ r : Bool, u22 = .bool r ∧ u23 = (bif b11 then .bool (!r) else undef) ∧ u24 = (bif b12 then .bool (!r) else undef) ∧ Gk W.heap.size S A Wr.drew w ∧ ((r = true ∧ J S ((pathV seed h q).take (pre.length + 1)) w) ∨ (r = false ∧ D S w)))) (down_ofI (by decide +kernel)) ?size ?done' ?step _ _ _ _ ?start (by decide)
      case size =>
        rintro L a w ⟨b4, b5, b6, b7, b8, b9, b10, b11, b12, u22, u23, u24, rfl, -⟩
        rfl
      case start => exact ⟨false, false, false, false, false, false, false, false, false, undef, undef, undef, rfl, rfl, fun e => (by cases e), fun e => (by cases e), fun e => (by cases e), fun e => (by cases e), fun _ => ⟨rfl, rfl, rfl, rfl, rfl, rfl⟩, fun e => (by cases e)⟩
      case done' =>
        rintro L a w ⟨b4, b5, b6, b7, b8, b9, b10, b11, b12, u22, u23, u24, rfl, rfl, h7, h8, h9, hc, hf, ht⟩ hall
        obtain rfl : b10 = true := hall 10 (by decide)
        obtain rfl : b11 = true := hall 11 (by decide)
        obtain rfl : b12 = true := hall 12 (by decide)
        obtain ⟨rfl, rfl⟩ := hc rfl
        obtain rfl := h9 rfl
        obtain ⟨rfl, rfl⟩ := h8 rfl
        obtain rfl := h7 rfl
        obtain ⟨r, rfl, rfl, rfl, hgk, (⟨rfl, hj3⟩ | ⟨rfl, hd3⟩)⟩ := ht rfl
        · exact HT.out w hgk hj3
        · exact HFa.out w hgk hd3
      case step =>
        rintro L a w i o ⟨b4, b5, b6, b7, b8, b9, b10, b11, b12, u22, u23, u24, rfl, rfl, h7, h8, h9, hc, hf, ht⟩ ho hl hdep
        have hi : i < 13 := (Array.getElem?_eq_some_iff.1 ho).1
        have hi' : i = 0 ∨ i = 1 ∨ i = 2 ∨ i = 3 ∨ i = 4 ∨ i = 5 ∨ i = 6 ∨ i = 7 ∨ i = 8 ∨ i = 9 ∨ i = 10 ∨ i = 11 ∨ i = 12 := by omega
        clear hi
        rcases hi' with rfl | rfl | rfl | rfl | rfl | rfl | rfl | rfl | rfl | rfl | rfl | rfl | rfl
        · cases hl
        · cases hl
        · cases hl
        · cases hl
        · cases ho
          obtain rfl : b4 = false := hl
          cases b10 with
          | true => exact absurd ((hc rfl).1) (by decide)
          | false =>
            obtain ⟨rfl, rfl, rfl, rfl, rfl, rfl⟩ := hf rfl
            replace h7 := Lib.hid h7
            replace h8 := Lib.hid h8
            replace h9 := Lib.hid h9
            clear hc hf ht hdep
            refine wpOpIn_step rfl (fun K hK => ?_)
            go_simp
            refine hK _ _ ?_; clear hK K
            exact ⟨true, b5, b6, b7, b8, b9, false, false, false, undef, undef, undef, rfl, rfl, h7.out, h8.out, h9.out, fun e => (by cases e), fun _ => ⟨rfl, rfl, rfl, rfl, rfl, rfl⟩, fun e => (by cases e)⟩
        · cases ho
          obtain rfl : b5 = false := hl
          cases b10 with
          | true => exact absurd ((h8 (h9 (hc rfl).2)).1) (by decide)
          | false =>
            obtain ⟨rfl, rfl, rfl, rfl, rfl, rfl⟩ := hf rfl
            replace h7 := Lib.hid h7
            replace h8 := Lib.hid h8
            replace h9 := Lib.hid h9
            clear hc hf ht hdep
            refine wpOpIn_step rfl (fun K hK => ?_)
            go_simp
            refine hK _ _ ?_; clear hK K
            exact ⟨b4, true, b6, b7, b8, b9, false, false, false, undef, undef, undef, rfl, rfl, h7.out, fun e => ⟨rfl, (h8.out e).2⟩, h9.out, fun e => (by cases e), fun _ => ⟨rfl, rfl, rfl, rfl, rfl, rfl⟩, fun e => (by cases e)⟩
        · cases ho
          obtain rfl : b6 = false := hl
          cases b10 with
          | true => exact absurd (h7 (h8 (h9 (hc rfl).2)).2) (by decide)
          | false =>
            obtain ⟨rfl, rfl, rfl, rfl, rfl, rfl⟩ := hf rfl
            replace h7 := Lib.hid h7
            replace h8 := Lib.hid h8
            replace h9 := Lib.hid h9
            clear hc hf ht hdep
            refine wpOpIn_step rfl (fun K hK => ?_)
            go_simp
            refine hK _ _ ?_; clear hK K
            exact ⟨b4, b5, true, b7, b8, b9, false, false, false, undef, undef, undef, rfl, rfl, fun _ => rfl, h8.out, h9.out, fun e => (by cases e), fun _ => ⟨rfl, rfl, rfl, rfl, rfl, rfl⟩, fun e => (by cases e)⟩
        · cases ho
          obtain rfl : b7 = false := hl
          obtain rfl : b6 = true := hdep ⟨6, .data⟩ (by simp) rfl
          cases b10 with
          | true => exact absurd ((h8 (h9 (hc rfl).2)).2) (by decide)
          | false =>
            obtain ⟨rfl, rfl, rfl, rfl, rfl, rfl⟩ := hf rfl
            replace h7 := Lib.hid h7
            replace h8 := Lib.hid h8
            replace h9 := Lib.hid h9
            clear hc hf ht hdep
            refine wpOpIn_step rfl (fun K hK => ?_)
            simp only [cond_true]
            go_simp
            refine hK _ _ ?_; clear hK K
            exact ⟨b4, b5, true, true, b8, b9, false, false, false, undef, undef, undef, rfl, rfl, fun _ => rfl, fun e => ⟨(h8.out e).1, rfl⟩, h9.out, fun e => (by cases e), fun _ => ⟨rfl, rfl, rfl, rfl, rfl, rfl⟩, fun e => (by cases e)⟩
        · cases ho
          obtain rfl : b8 = false := hl
          obtain rfl : b5 = true := hdep ⟨5, .data⟩ (by simp) rfl
          obtain rfl : b7 = true := hdep ⟨7, .data⟩ (by simp) rfl
          cases b10 with
          | true => exact absurd (h9 (hc rfl).2) (by decide)
          | false =>
            obtain ⟨rfl, rfl, rfl, rfl, rfl, rfl⟩ := hf rfl
            replace h7 := Lib.hid h7
            replace h8 := Lib.hid h8
            replace h9 := Lib.hid h9
            clear hc hf ht hdep
            refine wpOpIn_step rfl (fun K hK => ?_)
            simp only [cond_true]
            go_simp
            refine hK _ _ ?_; clear hK K
            exact ⟨b4, true, b6, true, true, b9, false, false, false, undef, undef, undef, rfl, rfl, h7.out, fun _ => ⟨rfl, rfl⟩, fun _ => rfl, fun e => (by cases e), fun _ => ⟨rfl, rfl, rfl, rfl, rfl, rfl⟩, fun e => (by cases e)⟩
        · cases ho
          obtain rfl : b9 = false := hl
          obtain rfl : b8 = true := hdep ⟨8, .data⟩ (by simp) rfl
          cases b10 with
          | true => exact absurd ((hc rfl).2) (by decide)
          | false =>
            obtain ⟨rfl, rfl, rfl, rfl, rfl, rfl⟩ := hf rfl
            replace h7 := Lib.hid h7
            replace h8 := Lib.hid h8
            replace h9 := Lib.hid h9
            clear hc hf ht hdep
            refine wpOpIn_step rfl (fun K hK => ?_)
            simp only [cond_true]
            go_simp
            refine hK _ _ ?_; clear hK K
            exact ⟨b4, b5, b6, b7, true, true, false, false, false, undef, undef, undef, rfl, rfl, h7.out, h8.out, fun _ => rfl, fun e => (by cases e), fun _ => ⟨rfl, rfl, rfl, rfl, rfl, rfl⟩, fun e => (by cases e)⟩
        · cases ho
          obtain rfl : b10 = false := hl
          obtain rfl : b4 = true := hdep ⟨4, .data⟩ (by simp) rfl
          obtain rfl : b9 = true := hdep ⟨9, .data⟩ (by simp) rfl
          obtain rfl := h9 rfl
          obtain ⟨rfl, rfl⟩ := h8 rfl
          obtain rfl := h7 rfl
          obtain ⟨rfl, rfl, rfl, rfl, rfl, rfl⟩ := hf rfl
          clear hc hf ht hdep h7 h8 h9
          refine wpOpIn_step rfl (fun K hK => ?_)
          simp only [cond_true]
          go_simp
          refine ⟨fun _ => by omega, (HRR.out _).mono ?_⟩
          rintro e W3 ⟨hgk, (⟨rfl, hj3⟩ | ⟨rfl, hd3⟩)⟩
          · refine hK _ _ ?_
            exact ⟨true, true, true, true, true, true, true, false, false, .bool true, undef, undef, rfl, rfl, fun _ => rfl, fun _ => ⟨rfl, rfl⟩, fun _ => rfl, fun _ => ⟨rfl, rfl⟩, fun e => (by cases e), fun _ => ⟨true, rfl, rfl, rfl, hgk, .inl ⟨rfl, hj3⟩⟩⟩
          · refine hK _ _ ?_
            exact ⟨true, true, true, true, true, true, true, false, false, .bool false, undef, undef, rfl, rfl, fun _ => rfl, fun _ => ⟨rfl, rfl⟩, fun _ => rfl, fun _ => ⟨rfl, rfl⟩, fun e => (by cases e), fun _ => ⟨false, rfl, rfl, rfl, hgk, .inr ⟨rfl, hd3⟩⟩⟩
        · cases ho
          obtain rfl : b11 = false := hl
          obtain rfl : b10 = true := hdep ⟨10, .data⟩ (by simp) rfl
          ·
            obtain ⟨rfl, rfl⟩ := hc rfl
            obtain rfl := h9 rfl
            obtain ⟨rfl, rfl⟩ := h8 rfl
            obtain rfl := h7 rfl
            obtain ⟨r, rfl, rfl, rfl, hgk, hr⟩ := ht rfl
            have Hgk := Lib.hid hgk
            have Hr := Lib.hid hr
            clear hc hf ht hdep h7 h8 h9 hgk hr
            refine wpOpIn_step rfl (fun K hK => ?_)
            simp only [cond_true, cond_false]
            go_simp
            refine hK _ _ ?_; clear hK K
            exact ⟨true, true, true, true, true, true, true, true, b12, .bool r, .bool (!r), (bif b12 then .bool (!r) else undef), rfl, rfl, fun _ => rfl, fun _ => ⟨rfl, rfl⟩, fun _ => rfl, fun _ => ⟨rfl, rfl⟩, fun e => (by cases e), fun _ => ⟨r, rfl, rfl, rfl, Hgk.out, Hr.out⟩⟩
        · cases ho
          obtain rfl : b12 = false := hl
          obtain rfl : b11 = true := hdep ⟨11, .data⟩ (by simp) rfl
          cases b10 with
          | false => obtain ⟨-, e, -⟩ := hf rfl; cases e
          | true =>
            obtain ⟨rfl, rfl⟩ := hc rfl
            obtain rfl := h9 rfl
            obtain ⟨rfl, rfl⟩ := h8 rfl
            obtain rfl := h7 rfl
            obtain ⟨r, rfl, rfl, rfl, hgk, hr⟩ := ht rfl
            have Hgk := Lib.hid hgk
            have Hr := Lib.hid hr
            clear hc hf ht hdep h7 h8 h9 hgk hr
            refine wpOpIn_step rfl (fun K hK => ?_)
            simp only [cond_true, cond_false]
            go_simp
            refine hK _ _ ?_; clear hK K
            exact ⟨true, true, true, true, true, true, true, true, true, .bool r, .bool (!r), .bool (!r), rfl, rfl, fun _ => rfl, fun _ => ⟨rfl, rfl⟩, fun _ => rfl, fun _ => ⟨rfl, rfl⟩, fun e => (by cases e), fun _ => ⟨r, rfl, rfl, rfl, Hgk.out, Hr.out⟩⟩
    · have hje : pre.length = h := by omega
      have hn1' : x.length = 1 := by rw [hlx, hje, Nat.sub_self, Nat.pow_zero]
      have kJ := Lib.hid (HJ.out S _ A Wr.drew (by omega) hJA ((hch.mono (by omega) (Nat.le_refl _)).drew))
      rw [show (pathV seed h q).take pre.length = pathV seed h q from List.take_of_length_le (by rw [pathV_len]; omega)] at kJ
      have kG : Hid (Gk W0.heap.size S A Wr Wr.drew) := ⟨Nat.le_refl _, fun _ _ _ => rfl, fun _ _ _ => rfl⟩
      clear hx hlx bg hJA hch
      rw [hn1']
      clear hn1'
      gi_wp2_with fail
      rename_i Kr Ar
      have HT : Hid (Kr { tmps := #[.func (.yield l) #[] #[], .pointer (some ⟨bq, 0, none⟩), .pointer (some ⟨bs, 0, none⟩), .pointer (some ⟨bh, 0, none⟩), .pointer (some ⟨W.heap.size, 0, none⟩), .pointer (some ⟨W.heap.size + 1, 0, none⟩), .slice (some ⟨g, 0, none⟩) 1 1, .int .i64 (q : Int), U64 seed, .int .i64 (h : Int), .func (.func 60) #[] #[.pointer (some ⟨g2 + 1, 0, none⟩), .pointer (some ⟨g2, 0, none⟩)], .slice (some ⟨g, 0, none⟩) 1 1, .slice (some ⟨g, 0, none⟩) 1 1, .int .i64 1, .bool true, .bool true, undef, undef, undef, undef, undef, undef, undef, undef, .bool true, undef, undef], defers := [] } Wr.drew) := by
        refine Ar _ _ ?_
        clear c0
        gi_wp2_with fail
        exact ⟨kG.out, .inl kJ.out⟩
      clear Ar
      refine wpIn_region_any (by kernel_rfl) ?_
      change wpAnyIn _ _ _ _ _ _ _ _ _ (World.drew _)
      refine wpAnyIn_ready (rs := [0]) (by decide +kernel) (by simp) ?_
      refine AllReadyIn.cons rfl (fun K hK => ?_) AllReadyIn.nil
      go_simp
      refine hK _ _ ?_; clear hK K
      refine wpAnyIn_ready (rs := [1]) (by decide +kernel) (by simp) ?_
      refine AllReadyIn.cons rfl (fun K hK => ?_) AllReadyIn.nil
      go_simp
      refine hK _ _ ?_; clear hK K
      refine wpAnyIn_ready (rs := [2]) (by decide +kernel) (by simp) ?_
      refine AllReadyIn.cons rfl (fun K hK => ?_) AllReadyIn.nil
      go_simp
      refine hK _ _ ?_; clear hK K
      refine wpAnyIn_ready (rs := [3]) (by decide +kernel) (by simp) ?_
      refine AllReadyIn.cons rfl (fun K hK => ?_) AllReadyIn.nil
      go_simp
      refine hK _ _ ?_; clear hK K
      refine wpAnyIn_inv (Inv := fun L a w => ∃ b4 b5 b6 b7 b8 b9 b10 b11 b12 : Bool, L = #[true, true, true, true, b4, b5, b6, b7, b8, b9, b10, b11, b12] ∧ a = { tmps := #[.func (.yield l) #[] #[], .pointer (some ⟨bq, 0, none⟩), .pointer (some ⟨bs, 0, none⟩), .pointer (some ⟨bh, 0, none⟩), .pointer (some ⟨W.heap.size, 0, none⟩), .pointer (some ⟨W.heap.size + 1, 0, none⟩), .slice (some ⟨g, 0, none⟩) 1 1, .int .i64 (q : Int), U64 seed, .int .i64 (h : Int), .func (.func 60) #[] #[.pointer (some ⟨g2 + 1, 0, none⟩), .pointer (some ⟨g2, 0, none⟩)], .slice (some ⟨g, 0, none⟩) 1 1, .slice (some ⟨g, 0, none⟩) 1 1, .int .i64 1, .bool true, .bool true, undef, undef, undef, undef, undef, undef, undef, undef, (bif b12 then .bool true else undef), undef, undef], defers := [] } ∧ w = Wr.drew) (down_ofI (by decide +kernel)) ?size ?done' ?step _ _ _ _ ?start (by decide)
      case size =>
        rintro L a w ⟨b4, b5, b6, b7, b8, b9, b10, b11, b12, rfl, -⟩
        rfl
      case start => exact ⟨false, false, false, false, false, false, false, false, false, rfl, rfl, rfl⟩
      case done' =>
        rintro L a w ⟨b4, b5, b6, b7, b8, b9, b10, b11, b12, rfl, rfl, rfl⟩ hall
        obtain rfl : b12 = true := hall 12 (by decide)
        exact HT.out
      case step =>
        rintro L a w i o ⟨b4, b5, b6, b7, b8, b9, b10, b11, b12, rfl, rfl, rfl⟩ ho hl hdep
        have hi : i < 13 := (Array.getElem?_eq_some_iff.1 ho).1
        have hi' : i = 0 ∨ i = 1 ∨ i = 2 ∨ i = 3 ∨ i = 4 ∨ i = 5 ∨ i = 6 ∨ i = 7 ∨ i = 8 ∨ i = 9 ∨ i = 10 ∨ i = 11 ∨ i = 12 := by omega
        clear hi hdep
        rcases hi' with rfl | rfl | rfl | rfl | rfl | rfl | rfl | rfl | rfl | rfl | rfl | rfl | rfl
        · cases hl
        · cases hl
        · cases hl
        · cases hl
        · cases ho
          obtain rfl : b4 = false := hl
          refine wpOpIn_step rfl (fun K hK => ?_)
          go_simp
          (first | refine hK _ _ ?_ | refine ⟨fun f hf => (by cases hf), hK _ _ ?_⟩)
          clear hK K
          exact ⟨true, b5, b6, b7, b8, b9, b10, b11, b12, rfl, rfl, rfl⟩
        · cases ho
          obtain rfl : b5 = false := hl
          refine wpOpIn_step rfl (fun K hK => ?_)
          go_simp
          (first | refine hK _ _ ?_ | refine ⟨fun f hf => (by cases hf), hK _ _ ?_⟩)
          clear hK K
          exact ⟨b4, true, b6, b7, b8, b9, b10, b11, b12, rfl, rfl, rfl⟩
        · cases ho
          obtain rfl : b6 = false := hl
          refine wpOpIn_step rfl (fun K hK => ?_)
          go_simp
          (first | refine hK _ _ ?_ | refine ⟨fun f hf => (by cases hf), hK _ _ ?_⟩)
          clear hK K
          exact ⟨b4, b5, true, b7, b8, b9, b10, b11, b12, rfl, rfl, rfl⟩
        · cases ho
          obtain rfl : b7 = false := hl
          refine wpOpIn_step rfl (fun K hK => ?_)
          go_simp
          (first | refine hK _ _ ?_ | refine ⟨fun f hf => (by cases hf), hK _ _ ?_⟩)
          clear hK K
          exact ⟨b4, b5, b6, true, b8, b9, b10, b11, b12, rfl, rfl, rfl⟩
        · cases ho
          obtain rfl : b8 = false := hl
          refine wpOpIn_step rfl (fun K hK => ?_)
          go_simp
          (first | refine hK _ _ ?_ | refine ⟨fun f hf => (by cases hf), hK _ _ ?_⟩)
          clear hK K
          exact ⟨b4, b5, b6, b7, true, b9, b10, b11, b12, rfl, rfl, rfl⟩
        · cases ho
          obtain rfl : b9 = false := hl
          refine wpOpIn_step rfl (fun K hK => ?_)
          go_simp
          (first | refine hK _ _ ?_ | refine ⟨fun f hf => (by cases hf), hK _ _ ?_⟩)
          clear hK K
          exact ⟨b4, b5, b6, b7, b8, true, b10, b11, b12, rfl, rfl, rfl⟩
        · cases ho
          obtain rfl : b10 = false := hl
          refine wpOpIn_step rfl (fun K hK => ?_)
          go_simp
          (first | refine hK _ _ ?_ | refine ⟨fun f hf => (by cases hf), hK _ _ ?_⟩)
          clear hK K
          exact ⟨b4, b5, b6, b7, b8, b9, true, b11, b12, rfl, rfl, rfl⟩
        · cases ho
          obtain rfl : b11 = false := hl
          refine wpOpIn_step rfl (fun K hK => ?_)
          go_simp
          (first | refine hK _ _ ?_ | refine ⟨fun f hf => (by cases hf), hK _ _ ?_⟩)
          clear hK K
          exact ⟨b4, b5, b6, b7, b8, b9, b10, true, b12, rfl, rfl, rfl⟩
        · cases ho
          obtain rfl : b12 = false := hl
          refine wpOpIn_step rfl (fun K hK => ?_)
          go_simp
          refine hK _ _ ?_; clear hK K
          exact ⟨b4, b5, b6, b7, b8, b9, b10, b11, true, rfl, rfl, rfl⟩
  case done =>
    rintro S Dk Wd hD _ hS ⟨h1, _⟩ hK
    rw [levL_len] at h1
    omega
  case stop =>
    rintro S Dk Wd hD hD2 hS hjd hK
    have hDk : Dk < S := by omega
    have kJ : J S (pathV seed h q) (Wd.putObj Dk (.deferred none)) ∨ D S (Wd.putObj Dk (.deferred none)) := by
      rcases hjd with h1 | h1
      · exact .inl (HJ.out S _ _ _ (by omega) h1 (Ch.put _ _ _ (by omega) hDk))
      · exact .inr (HD.out S _ _ (by omega) h1 (Ch.put _ _ _ (by omega) hDk))
    gi_wp2_with fail
    refine ⟨by simp, .inl ⟨_, _, rfl, run_takeDeferred hK, ?_⟩⟩
    exact ⟨.tuple #[], by simp [results, Try.results62, go_sem], ⟨_, rfl⟩, S, by omega, kJ⟩

theorem path_hands (n : Nat) (hn : 6 ≤ n) (bs bh bq : Nat) (seed : BitVec 64) (h q : Nat) (hh : h ≤ 6) (hq : q < 2 ^ h) (w : World) (hs : BoxN w bs 22 #[U64 seed]) (hhb : BoxN w bh 3 #[.int .i64 (h : Int)]) (hqb : BoxN w bq 3 #[.int .i64 (q : Int)]) :
    HandsG Fence.wide n Try.prog 62 #[.pointer (some ⟨bq, 0, none⟩), .pointer (some ⟨bs, 0, none⟩), .pointer (some ⟨bh, 0, none⟩)] PathEnc (pathV seed h q) w := fun l J D W hW hJ hD hY h0 =>
  path1_in n hn l bs bh bq seed h q hh hq J D W hJ hD hY (hs.keep hW) (hhb.keep hW) (hqb.keep hW) h0
end Go.Proofs.Ytaoipbndmfjmhaa
