/- The contract of Root. -/
import Derived.Test.YtaoipbndmfjmhaaLev
namespace Go.Proofs.Ytaoipbndmfjmhaa
open Go.RowKit Go.Joins
attribute [local go_sem] Oper.semAt_some

theorem below_put {B : Nat} {A : World} {l : Nat} {o : Obj} (hl : B ≤ l) : Below B A (A.putObj l o) := ⟨rfl, rfl, rfl, by simp, fun k hk => World.putObj_heap_other (by omega)⟩
theorem lev_enc_put (x : List (BitVec 64)) (S : Nat) (A W : World) (v : Array Value) (l : Nat) (r r' : Loop) (h : LevEnc x S A W v) (hl : l < A.heap.size) (_ : W.heap[l]? = some (.loop r)) : LevEnc x S A (W.putObj l (.loop r')) v := by
  obtain ⟨g, hS, h1, h2, h3⟩ := h
  exact ⟨g, hS, h1, (World.putObj_heap_other (by omega)).trans h2, h3⟩
theorem rootV_last (seed : BitVec 64) (h : Nat) : ∃ l, (levL seed h).getLast? = some l ∧ l[0]? = some (rootV seed h) ∧ l.length = 1 := by
  refine ⟨lev (leaves seed h) h, ?_, ?_, ?_⟩
  · rw [List.getLast?_eq_getElem?, levL_len]; exact levL_get seed h h (Nat.le_refl _)
  · have hl := lev_len (leaves seed h) h (leaves_len seed h) h (Nat.le_refl _)
    rw [Nat.sub_self] at hl
    unfold rootV node
    rw [List.getD_eq_getElem?_getD]
    match hm : lev (leaves seed h) h, hl with
    | [a], _ => rfl
  · rw [lev_len (leaves seed h) h (leaves_len seed h) h (Nat.le_refl _), Nat.sub_self, Nat.pow_zero]

set_option maxRecDepth 100000 in
set_option maxHeartbeats 2000000 in
theorem root_ok (seed : BitVec 64) (h : Nat) (hh : h ≤ 6) (w : World) :
    Calls Try.prog 17 #[U64 seed, .int .i64 h] w fun e w' => e = .returned (.tuple #[U64 (rootV seed h), .int .i64 0]) ∧ Below w.heap.size w w' := by
  refine (callsIn_wide (n := 9)).1 ?_
  have hro : Fence.wide.round = none := rfl
  have hz : ∀ w : World, (zeroValue 32).run Try.prog w = .ok (.slice none 0 0) w := fun _ => by kernel_rfl
  have HH : Hid (∀ W : World, Calls Try.prog 42 #[.int .i64 h] W fun e w' => e = .returned (.bool true) ∧ Below W.heap.size W w') := fun W => by
    have := isHeight_any (h : Int) W
    rwa [show okH (h : Int) = true by simp [okH]; omega] at this
  have HL : Hid (∀ W : World, _) := fun W => levels_any seed (h : Int) W
  refine callsIn_of_wp_marks Try.func17 rfl trivial ?_ hro
  simp only [Try.ntmps17, List.size_toArray, List.length_cons, List.length_nil, Nat.reduceAdd, Nat.reduceSub, Array.replicate_succ, Array.replicate_zero, List.push_toArray, List.append_toArray, List.nil_append, List.cons_append]
  gi_wp2_with fail
  refine ⟨trivial, ?_⟩
  (with_reducible refine (callsIn_wide.2 (HH.out _)).mono ?_); rintro e w1 ⟨rfl, hb1⟩
  have bT := BoxN.new w1 32 #[.slice none 0 0]
  have hB : Below w.heap.size w (w1.alloc (.cells #[.slice none 0 0] 32)) := hb1.alloc hb1.size _
  have hgT : w.heap.size ≤ w1.heap.size := hb1.size
  gi_wp2_with fail
  refine ⟨trivial, ?_⟩
  clear hz hb1
  (with_reducible refine (callsIn_wide.2 (HL.out _)).mono ?_); rintro e w3 ⟨rfl, rfl⟩
  generalize w1.alloc (.cells #[.slice none 0 0] 32) = w2 at bT hB ⊢
  generalize w1.heap.size = gT at bT hgT ⊢
  have bs := (BoxN.new w2 22 #[U64 seed]).alloc (.cells #[.int .i64 (h : Int)] 3)
  have bh : BoxN ((w2.alloc (.cells #[U64 seed] 22)).alloc (.cells #[.int .i64 (h : Int)] 3)) (w2.heap.size + 1) 3 #[.int .i64 (h : Int)] := by
    have := BoxN.new (w2.alloc (.cells #[U64 seed] 22)) 3 #[.int .i64 (h : Int)]
    rwa [World.size_alloc] at this
  replace bT := (bT.alloc (.cells #[U64 seed] 22)).alloc (.cells #[.int .i64 (h : Int)] 3)
  replace hB := (hB.alloc hB.size (.cells #[U64 seed] 22)).alloc (by have := hB.size; simp; omega) (.cells #[.int .i64 (h : Int)] 3)
  gi_wp2_with fail
  generalize (w2.alloc (.cells #[U64 seed] 22)).alloc (.cells #[.int .i64 (h : Int)] 3) = W0 at bs bh bT hB ⊢
  generalize w2.heap.size = g2 at bs bh ⊢
  have hTl := bT.lt
  obtain ⟨lst, hlst, hl0, hl1⟩ := rootV_last seed h
  refine wpIn_handsG hro (by decide) (gf := 60) (lb := #[.pointer (some ⟨g2 + 1, 0, none⟩), .pointer (some ⟨g2, 0, none⟩)]) rfl trivial (enters_of Try.func60 (by kernel_rfl) rfl)
    (lev_hands 8 (by decide) g2 (g2 + 1) seed h hh W0 bs bh) (Below.refl _ _) (fun x S A W v ⟨g, _, _, _, hv⟩ => by subst hv; rfl) (fun x S A W v l r r' hE hl hr => lev_enc_put x S A W v l r r' hE hl hr)
    (fun S pre A => (∃ v, BoxN A gT 32 #[v] ∧ ∀ x, pre.getLast? = some x → ∃ g, v = .slice (some ⟨g, 0, none⟩) x.length x.length ∧ S ≤ g ∧ BoxN A g 22 (rowQ x)) ∧ Below w.heap.size w A)
    (fun _ _ => False) ?hJ (fun _ _ _ _ h _ => h.elim) ?h0
    (fun v a' => ∃ x, v = #[x] ∧ a' = { tmps := #[U64 seed, .int .i64 h, undef, undef, .int .u64 0, .int .i64 0, .pointer (some ⟨gT, 0, none⟩), x, .int .i64 h, .bool true, .bool false, U64 seed, .int .i64 h, .func (.func 60) #[] #[.pointer (some ⟨g2 + 1, 0, none⟩), .pointer (some ⟨g2, 0, none⟩)], x, undef, undef, undef, undef], defers := [] })
    ?assign ?body ?done (fun _ _ _ _ _ _ h _ => h.elim)
  case hJ =>
    rintro S pre A C hS ⟨⟨v, b1, hx⟩, hBA⟩ hk
    refine ⟨⟨v, (hk.b.block gT hTl).trans b1, fun x e => ?_⟩, hBA.trans (hk.b.mono hB.size)⟩
    obtain ⟨g, hv, hSg, bg⟩ := hx x e
    exact ⟨g, hv, hSg, (hk.same g bg.lt hSg).trans bg⟩
  case h0 => exact fun S _ => ⟨⟨_, bT, fun x e => by cases e⟩, hB⟩
  case assign =>
    rintro l S x A W v K ⟨g, _, _, _, rfl⟩ hK
    have hK' := Lib.hid hK
    clear hK
    gi_wp2_with fail
    exact hK'.out _ ⟨_, rfl, rfl⟩
  case body =>
    rintro l S pre x v a' A W hS hSW hAW ⟨⟨v0, b1, _⟩, hBA⟩ hch ⟨y, rfl, rfl⟩ hpre ⟨g, hSg, hAg, bg, hv⟩
    obtain rfl : y = .slice (some ⟨g, 0, none⟩) x.length x.length := by simpa using hv
    have hTA := b1.lt
    have b2 : BoxN W gT 32 #[v0] := (hch.b.block gT hTl).trans b1
    have c0 := b2.cell 0
    have f0 := b2.frozen 0
    have hbl := b2.lt
    simp at c0
    have k1 := Lib.hid (b2.set1 0 (.slice (some ⟨g, 0, none⟩) x.length x.length))
    have k2 := Lib.hid (bg.far (p := ⟨gT, 0, none⟩) (by simp; omega) (.slice (some ⟨g, 0, none⟩) x.length x.length))
    have kB := Lib.hid ((hBA.trans (hch.b.mono hB.size)).setCell (p := ⟨gT, 0, none⟩) hgT (.slice (some ⟨g, 0, none⟩) x.length x.length))
    have kG : Hid (Gk W0.heap.size S A W (W.setCell ⟨gT, 0, none⟩ (.slice (some ⟨g, 0, none⟩) x.length x.length))) :=
      ⟨by simp, fun k h1 _ => Below.heap_setCell W _ _ k (by simp; omega), fun k h1 _ => Below.heap_setCell W _ _ k (by simp; omega)⟩
    have hlast : Hid ((pre ++ [x]).getLast? = some x) := by simp [Hid]
    clear b1 b2 bg hBA hch hpre
    gi_wp2_with fail
    refine ⟨kG.out, ⟨_, k1.out, fun x' e => ?_⟩, kB.out⟩
    rw [hlast.out] at e
    cases e
    exact ⟨g, rfl, hSg, k2.out⟩
  case done =>
    rintro S Dk W hD _ hS ⟨⟨v, b1, hx⟩, hBA⟩ hK
    obtain ⟨g, rfl, _, bg⟩ := hx _ hlst
    rw [hl1] at b1
    have c0 := b1.cell 0
    have hbl := b1.lt
    have c1 := bg.cell 0
    rw [rowQ_get _ 0 _ hl0] at c1
    simp at c0
    clear hx b1 bg
    gi_wp2_with fail
    refine ⟨by simp, .inl ⟨_, _, rfl, run_takeDeferred hK, ?_⟩⟩
    exact ⟨_, by simp [results, Try.results17, go_sem], rfl, hBA.trans (below_put (by have := hB.size; omega))⟩

set_option maxRecDepth 100000 in
theorem root_bad (seed : BitVec 64) (h : Int) (hh : okH h = false) (w : World) :
    Calls Try.prog 17 #[U64 seed, .int .i64 h] w fun e w' => e = .returned (.tuple #[.int .u64 0, .int .i64 2]) ∧ Below w.heap.size w w' := by
  have HH : Hid (∀ W : World, Calls Try.prog 42 #[.int .i64 h] W fun e w' => e = .returned (.bool false) ∧ Below W.heap.size W w') := fun W => by
    have := isHeight_any h W
    rwa [hh] at this
  have hB := Below.refl w.heap.size w
  clear hh
  go_enter Try.func17, Try.ntmps17
  go_wp2_with fail
  (with_reducible refine (HH.out _).mono ?_); rintro e w1 ⟨rfl, hb1⟩
  replace hB := hB.trans (hb1.mono hB.size)
  go_wp2_with fail
  go_ret2
  exact ⟨rfl, hB⟩
end Go.Proofs.Ytaoipbndmfjmhaa
