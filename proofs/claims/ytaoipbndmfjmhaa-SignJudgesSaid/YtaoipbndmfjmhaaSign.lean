/- The contract of the function Sign. -/
import Derived.Test.YtaoipbndmfjmhaaSig
namespace Go.Proofs.Ytaoipbndmfjmhaa
open Go.RowKit Go.Joins
attribute [local go_sem] Oper.semAt_some

theorem own_cellsrow' {A : World} {S : Nat} {e : TypeId} {size n : Nat} {v : Value} {xs : List Value} (h : A.ownsRow S e size v n xs) : ∀ k, v.ownBlock = some k → ¬ A.heap.size ≤ k := fun k hk hle => by
  rcases h.2 with ⟨rfl, _⟩ | ⟨g, cap, cur, rfl, _, h3, _⟩
  · cases hk
  · cases hk
    exact absurd hle (Nat.not_le.2 (Array.getElem?_eq_some_iff.1 h3).1)
theorem own_far' {w : World} {base : Nat} {e : TypeId} {size n : Nat} {v : Value} {xs : List Value} (h : w.ownsRow base e size v n xs) {p : Addr} (hp : p.block < base) (u : Value) : (w.setCell p u).ownsRow base e size v n xs := by
  obtain ⟨h1, h2⟩ := h
  refine ⟨h1, ?_⟩
  rcases h2 with h2 | ⟨g, cap, cur, e1, e2, e3, e4⟩
  · exact .inl h2
  · exact .inr ⟨g, cap, cur, e1, e2, (Below.heap_setCell w p u g (by omega)).trans e3, e4⟩
theorem isQ_of_own {base : Nat} {W : World} {g : Option Addr} {c : Nat} {l : List (BitVec 64)} (h : W.ownsRow base 22 1 (.slice g l.length c) l.length (l.map U64)) : isQ g l W := fun hne => by
  rcases h.2 with ⟨_, e⟩ | ⟨g', cap, cur, e, _, hg, _⟩
  · exact absurd (List.eq_nil_of_length_eq_zero e) hne
  · simp only [Value.slice.injEq] at e
    obtain ⟨rfl, _, _⟩ := e
    refine ⟨g', 0, rfl, (Array.getElem?_eq_some_iff.1 hg).1, fun k z hk => ?_⟩
    have := h.cells (g := g') rfl k (U64 z) (by rw [List.getElem?_map, hk]; rfl)
    rwa [Addr.add_lit] at this
theorem own_same {S : Nat} {A C : World} {e : TypeId} {size n : Nat} {v : Value} {xs : List Value} (h : A.ownsRow S e size v n xs) (hk : ∀ k, S ≤ k → C.heap[k]? = A.heap[k]?) : C.ownsRow S e size v n xs := by
  obtain ⟨h1, h2⟩ := h
  refine ⟨h1, ?_⟩
  rcases h2 with h2 | ⟨g, cap, cur, e1, e2, e3, e4⟩
  · exact .inl h2
  · exact .inr ⟨g, cap, cur, e1, e2, (hk g e2).trans e3, e4⟩
theorem own_ch {B S : Nat} {A C : World} {e : TypeId} {size n : Nat} {v : Value} {xs : List Value} (h : A.ownsRow S e size v n xs) (hk : Ch B S A C) : C.ownsRow S e size v n xs := by
  obtain ⟨h1, h2⟩ := h
  refine ⟨h1, ?_⟩
  rcases h2 with h2 | ⟨g, cap, cur, e1, e2, e3, e4⟩
  · exact .inl h2
  · exact .inr ⟨g, cap, cur, e1, e2, (hk.same g (Array.getElem?_eq_some_iff.1 e3).1 e2).trans e3, e4⟩
/-- The value of chain i in the signature of d. -/
def chainV (seed d : BitVec 64) (q : Int) (i : Nat) : BitVec 64 := val seed q i (digN d i)

set_option maxRecDepth 100000 in
set_option maxHeartbeats 4000000 in
theorem sign_okF (seed d : BitVec 64) (h q : Nat) (hh : h ≤ 6) (hq : q < 2 ^ h) (w : World) :
    Calls Try.prog 18 #[U64 seed, .int .i64 h, .int .i64 q, U64 d] w fun e w' => ∃ G c, e = .returned (.tuple #[.agg (sgA q (chainV seed d q) (.slice G h c)), .int .i64 0]) ∧ isQ G (pathV seed h q) w' ∧ Below w.heap.size w w' ∧ (∀ a, G = some a → w.heap.size < a.block) := by
  obtain ⟨i0, hi, hz0, hz1, hz2⟩ := info_parts infoQ
  refine (callsIn_wide (n := 9)).1 ?_
  have hro : Fence.wide.round = none := rfl
  have HK : Hid (∀ W : World, Calls Try.prog 44 #[.int .i64 q, .int .i64 h] W fun e w' => e = .returned (.bool true) ∧ Below W.heap.size W w') := fun W => by
    have := isKey_any (q : Int) (h : Int) W
    rwa [show okK (q : Int) (h : Int) = true by
      unfold okK; rw [Int.toNat_natCast]
      have : ((2 ^ h : Nat) : Int) = (2 : Int) ^ h := Int.natCast_pow 2 h
      simp; omega] at this
  have HS : Hid (∀ W : World, _) := fun W => secrets_any seed (q : Int) W
  have HD : Hid (∀ W : World, _) := fun W => digits_any d W
  have HA : Hid (∀ W : World, Calls Try.prog 38 #[.agg (rowW (secr seed (q : Int)) 18), .agg (rowI (fun _ => 0) 18), .agg (rowI (digN d) 18)] W fun e w' => e = .returned (.agg (rowW (chainV seed d q) 18)) ∧ Below W.heap.size W w') := fun W => advanced_any (secr seed (q : Int)) (fun _ => 0) (digN d) (fun i _ => by have := digN_lt d i; omega) W
  rw [show rowI (fun _ => 0) 18 = #[.int .i64 0, .int .i64 0, .int .i64 0, .int .i64 0, .int .i64 0, .int .i64 0, .int .i64 0, .int .i64 0, .int .i64 0, .int .i64 0, .int .i64 0, .int .i64 0, .int .i64 0, .int .i64 0, .int .i64 0, .int .i64 0, .int .i64 0, .int .i64 0] from rfl] at HA
  have HP : Hid (∀ W : World, _) := fun W => path_any seed (h : Int) (q : Int) W
  generalize rowW (secr seed (q : Int)) 18 = R1 at *
  generalize rowI (digN d) 18 = R3 at *
  refine callsIn_of_wp_marks Try.func18 rfl trivial ?_ hro
  simp only [Try.ntmps18, List.size_toArray, List.length_cons, List.length_nil, Nat.reduceAdd, Nat.reduceSub, Array.replicate_succ, Array.replicate_zero, List.push_toArray, List.append_toArray, List.nil_append, List.cons_append]
  gi_wp2_with fail
  refine ⟨trivial, ?_⟩
  (with_reducible refine (callsIn_wide.2 (HK.out _)).mono ?_); rintro e w1 ⟨rfl, hb1⟩
  gi_wp2_with fail
  refine ⟨trivial, ?_⟩
  (with_reducible refine (callsIn_wide.2 (HS.out _)).mono ?_); rintro e w2 ⟨rfl, hb2⟩
  gi_wp2_with fail
  refine ⟨trivial, ?_⟩
  (with_reducible refine (callsIn_wide.2 (HD.out _)).mono ?_); rintro e w3 ⟨rfl, hb3⟩
  gi_wp2_with fail
  refine ⟨trivial, ?_⟩
  (with_reducible refine (callsIn_wide.2 (HA.out _)).mono ?_); rintro e w4 ⟨rfl, hb4⟩
  have hbs := fold_sig (q : Int) (chainV seed d q)
  have hR4 : (rowW (chainV seed d q) 18).size = 18 := rowW_size _ _
  have h20 : Hid (∀ p, (sgA (q : Int) (chainV seed d q) p).size = 20) := fun p => sgA_size _ _ p
  obtain ⟨Sg, hSg⟩ : ∃ Sg, sgA (q : Int) (chainV seed d q) = Sg := ⟨_, rfl⟩
  rw [hSg] at hbs
  have HSg := Lib.hid hSg
  clear hSg
  generalize rowW (chainV seed d q) 18 = R4 at *
  have hzs := zero_sig
  have hSs : (Sg (.slice none 0 0)).size = 20 := by rw [← HSg.out]; exact sgA_size _ _ _
  have hiS : (Try.prog.info? 34).map (·.size) = some (Sg (.slice none 0 0)).size := by rw [← HSg.out, sgA_size]; exact info_sig
  have hoS : (Sg (.slice none 0 0)).all (·.oneCell') = true := by rw [← HSg.out]; exact sgA_one _ _ _ rfl
  have bS := BoxN.new w4 34 #[.int .i64 0, .int .u64 0, .int .u64 0, .int .u64 0, .int .u64 0, .int .u64 0, .int .u64 0, .int .u64 0, .int .u64 0, .int .u64 0, .int .u64 0, .int .u64 0, .int .u64 0, .int .u64 0, .int .u64 0, .int .u64 0, .int .u64 0, .int .u64 0, .int .u64 0, .slice none 0 0]
  have hsS : (#[.int .i64 0, .int .u64 0, .int .u64 0, .int .u64 0, .int .u64 0, .int .u64 0, .int .u64 0, .int .u64 0, .int .u64 0, .int .u64 0, .int .u64 0, .int .u64 0, .int .u64 0, .int .u64 0, .int .u64 0, .int .u64 0, .int .u64 0, .int .u64 0, .int .u64 0, .slice none 0 0] : Array Value).size = (Sg (.slice none 0 0)).size := by rw [← HSg.out, sgA_size]; rfl
  gi_wp2_with (refine wpListIn_store_rowG (by rfl) 34 _ _ rfl rfl w4.heap.size (Sg (.slice none 0 0)) rfl rfl 34 _ bS hiS hsS hoS ?_)
  have b10 : BoxN ((w4.alloc (.cells #[.int .i64 0, .int .u64 0, .int .u64 0, .int .u64 0, .int .u64 0, .int .u64 0, .int .u64 0, .int .u64 0, .int .u64 0, .int .u64 0, .int .u64 0, .int .u64 0, .int .u64 0, .int .u64 0, .int .u64 0, .int .u64 0, .int .u64 0, .int .u64 0, .int .u64 0, .slice none 0 0] 34)).setRow w4.heap.size (Sg (.slice none 0 0))) w4.heap.size 34 (Sg (.slice none 0 0)) := bS.setRow _
  have b8 : BoxN (w.alloc (.cells #[.int .i64 0, .int .u64 0, .int .u64 0, .int .u64 0, .int .u64 0, .int .u64 0, .int .u64 0, .int .u64 0, .int .u64 0, .int .u64 0, .int .u64 0, .int .u64 0, .int .u64 0, .int .u64 0, .int .u64 0, .int .u64 0, .int .u64 0, .int .u64 0, .int .u64 0, .slice none 0 0] 34)) w.heap.size 34 #[.int .i64 0, .int .u64 0, .int .u64 0, .int .u64 0, .int .u64 0, .int .u64 0, .int .u64 0, .int .u64 0, .int .u64 0, .int .u64 0, .int .u64 0, .int .u64 0, .int .u64 0, .int .u64 0, .int .u64 0, .int .u64 0, .int .u64 0, .int .u64 0, .int .u64 0, .slice none 0 0] := BoxN.new w _ _
  replace b8 := ((((b8.keep hb1).keep hb2).keep hb3).keep hb4).alloc (.cells #[.int .i64 0, .int .u64 0, .int .u64 0, .int .u64 0, .int .u64 0, .int .u64 0, .int .u64 0, .int .u64 0, .int .u64 0, .int .u64 0, .int .u64 0, .int .u64 0, .int .u64 0, .int .u64 0, .int .u64 0, .int .u64 0, .int .u64 0, .int .u64 0, .int .u64 0, .slice none 0 0] 34)
  have hB0 : Below w.heap.size w (w.alloc (.cells #[.int .i64 0, .int .u64 0, .int .u64 0, .int .u64 0, .int .u64 0, .int .u64 0, .int .u64 0, .int .u64 0, .int .u64 0, .int .u64 0, .int .u64 0, .int .u64 0, .int .u64 0, .int .u64 0, .int .u64 0, .int .u64 0, .int .u64 0, .int .u64 0, .int .u64 0, .slice none 0 0] 34)) := (Below.refl _ w).alloc (Nat.le_refl _) _
  have hB4 := (((hB0.trans (hb1.mono hB0.size)).trans (hb2.mono (Nat.le_trans hB0.size hb1.size))).trans (hb3.mono (Nat.le_trans hB0.size (Nat.le_trans hb1.size hb2.size)))).trans (hb4.mono (Nat.le_trans hB0.size (Nat.le_trans hb1.size (Nat.le_trans hb2.size hb3.size))))
  have h8l : w.heap.size < w4.heap.size := by
    have h1 := hb1.size; have h2 := hb2.size; have h3 := hb3.size; have h4 := hb4.size
    simp at h1; omega
  have hB5 : Below w.heap.size w ((w4.alloc (.cells #[.int .i64 0, .int .u64 0, .int .u64 0, .int .u64 0, .int .u64 0, .int .u64 0, .int .u64 0, .int .u64 0, .int .u64 0, .int .u64 0, .int .u64 0, .int .u64 0, .int .u64 0, .int .u64 0, .int .u64 0, .int .u64 0, .int .u64 0, .int .u64 0, .int .u64 0, .slice none 0 0] 34)).setRow w4.heap.size (Sg (.slice none 0 0))) := below_setRow (hB4.alloc (by omega) _) (by omega) _
  replace b8 := BoxN.farRow b8 (g := w4.heap.size) (by omega) (Sg (.slice none 0 0))
  clear hb1 hb2 hb3 hb4 hB0 hB4 bS hbs hzs hoS hsS hiS
  generalize (w4.alloc (.cells #[.int .i64 0, .int .u64 0, .int .u64 0, .int .u64 0, .int .u64 0, .int .u64 0, .int .u64 0, .int .u64 0, .int .u64 0, .int .u64 0, .int .u64 0, .int .u64 0, .int .u64 0, .int .u64 0, .int .u64 0, .int .u64 0, .int .u64 0, .int .u64 0, .int .u64 0, .slice none 0 0] 34)).setRow w4.heap.size (Sg (.slice none 0 0)) = w5 at b10 b8 hB5 ⊢
  obtain ⟨gS, hgS⟩ : ∃ gS, w4.heap.size = gS := ⟨_, rfl⟩
  rw [hgS] at b10 h8l ⊢
  clear hgS
  refine ⟨trivial, ?_⟩
  (with_reducible refine (callsIn_wide.2 (HP.out _)).mono ?_); rintro e w6 ⟨rfl, rfl⟩
  have c_s := ((BoxN.new w5 22 #[U64 seed]).alloc (.cells #[.int .i64 (h : Int)] 3)).alloc (.cells #[.int .i64 (q : Int)] 3)
  have c_h : BoxN (((w5.alloc (.cells #[U64 seed] 22)).alloc (.cells #[.int .i64 (h : Int)] 3)).alloc (.cells #[.int .i64 (q : Int)] 3)) (w5.heap.size + 1) 3 #[.int .i64 (h : Int)] := by
    have := (BoxN.new (w5.alloc (.cells #[U64 seed] 22)) 3 #[.int .i64 (h : Int)]).alloc (.cells #[.int .i64 (q : Int)] 3)
    rwa [World.size_alloc] at this
  have c_q : BoxN (((w5.alloc (.cells #[U64 seed] 22)).alloc (.cells #[.int .i64 (h : Int)] 3)).alloc (.cells #[.int .i64 (q : Int)] 3)) (w5.heap.size + 1 + 1) 3 #[.int .i64 (q : Int)] := by
    have := BoxN.new ((w5.alloc (.cells #[U64 seed] 22)).alloc (.cells #[.int .i64 (h : Int)] 3)) 3 #[.int .i64 (q : Int)]
    rwa [World.size_alloc, World.size_alloc] at this
  replace b10 := ((b10.alloc (.cells #[U64 seed] 22)).alloc (.cells #[.int .i64 (h : Int)] 3)).alloc (.cells #[.int .i64 (q : Int)] 3)
  replace b8 := ((b8.alloc (.cells #[U64 seed] 22)).alloc (.cells #[.int .i64 (h : Int)] 3)).alloc (.cells #[.int .i64 (q : Int)] 3)
  have h5z := hB5.size
  replace hB5 := ((hB5.alloc h5z (.cells #[U64 seed] 22)).alloc (by simp; omega) (.cells #[.int .i64 (h : Int)] 3)).alloc (by simp; omega) (.cells #[.int .i64 (q : Int)] 3)
  gi_wp2_with fail
  generalize ((w5.alloc (.cells #[U64 seed] 22)).alloc (.cells #[.int .i64 (h : Int)] 3)).alloc (.cells #[.int .i64 (q : Int)] 3) = W0 at c_s c_h c_q b10 b8 hB5 ⊢
  generalize w5.heap.size = g2 at c_s c_h c_q ⊢
  clear h5z
  have hSl := b10.lt
  have h8l2 := b8.lt
  refine wpIn_handsG hro (by decide) (gf := 62) (lb := #[.pointer (some ⟨g2 + 1 + 1, 0, none⟩), .pointer (some ⟨g2, 0, none⟩), .pointer (some ⟨g2 + 1, 0, none⟩)]) rfl trivial (enters_of Try.func62 (by kernel_rfl) rfl)
    (path_hands 8 (by decide) g2 (g2 + 1) (g2 + 1 + 1) seed h q hh hq W0 c_s c_h c_q) (Below.refl _ _) (fun x S A W v hv => by rw [show v = #[U64 x] from hv]; rfl) (fun x S A W v l r r' hE hl hr => hE)
    (fun S pre A => ∃ v, BoxN A gS 34 (Sg v) ∧ A.ownsRow S 22 1 v pre.length (pre.map U64) ∧ BoxN A w.heap.size 34 #[.int .i64 0, .int .u64 0, .int .u64 0, .int .u64 0, .int .u64 0, .int .u64 0, .int .u64 0, .int .u64 0, .int .u64 0, .int .u64 0, .int .u64 0, .int .u64 0, .int .u64 0, .int .u64 0, .int .u64 0, .int .u64 0, .int .u64 0, .int .u64 0, .int .u64 0, .slice none 0 0] ∧ Below w.heap.size w A)
    (fun _ _ => False) ?hJ (fun _ _ _ _ h _ => h.elim) ?h0
    (fun v a' => ∃ x, v = #[x] ∧ a' = { tmps := #[U64 seed, .int .i64 h, .int .i64 q, U64 d, undef, undef, undef, undef, .pointer (some ⟨w.heap.size, 0, none⟩), .int .i64 0, .pointer (some ⟨gS, 0, none⟩), x, .int .i64 q, .int .i64 h, .bool true, .bool false, undef, .int .i64 q, U64 seed, .int .i64 q, .agg R1, .agg #[.int .i64 0, .int .i64 0, .int .i64 0, .int .i64 0, .int .i64 0, .int .i64 0, .int .i64 0, .int .i64 0, .int .i64 0, .int .i64 0, .int .i64 0, .int .i64 0, .int .i64 0, .int .i64 0, .int .i64 0, .int .i64 0, .int .i64 0, .int .i64 0], U64 d, .agg R3, .agg R4, .agg (Sg (.slice none 0 0)), U64 seed, .int .i64 h, .int .i64 q, .func (.func 62) #[] #[.pointer (some ⟨g2 + 1 + 1, 0, none⟩), .pointer (some ⟨g2, 0, none⟩), .pointer (some ⟨g2 + 1, 0, none⟩)], x, undef, undef, undef, undef, undef, undef, undef], defers := [] })
    ?assign ?body ?done (fun _ _ _ _ _ _ h _ => h.elim)
  case hJ =>
    rintro S pre A C hS ⟨v, h1, h2, h3, h4⟩ hk
    exact ⟨v, (hk.b.block gS hSl).trans h1, own_ch h2 hk, (hk.b.block _ h8l2).trans h3, h4.trans (hk.b.mono hB5.size)⟩
  case h0 => exact fun S _ => ⟨_, b10, ⟨rfl, .inl ⟨rfl, rfl⟩⟩, b8, hB5⟩
  case assign =>
    rintro l S x A W v K hv hK
    rw [show v = #[U64 x] from hv] at hK ⊢
    have hK' := Lib.hid hK
    clear hK
    gi_wp2_with fail
    exact hK'.out _ ⟨_, rfl, rfl⟩
  case body =>
    rintro l S pre x v a' A W hS hSW hAW ⟨v0, b1, hown, b8A, hBA⟩ hch ⟨y, rfl, rfl⟩ hpre hv
    obtain rfl : y = U64 x := by simpa [PathEnc] using hv
    have hpl : pre.length + 1 ≤ 6 := by
      have := hpre.length_le
      rw [pathV_len, List.length_append] at this
      simp at this
      omega
    have hbk0 := own_block_le hown
    have hgS : gS < S := by omega
    have hne : v0.ownBlock ≠ some gS := fun e => by have := hbk0 _ e; omega
    have hne8 : v0.ownBlock ≠ some w.heap.size := fun e => by have := hbk0 _ e; omega
    have hownA := hown
    replace hown := own_ch hown hch
    have b1W : BoxN W gS 34 (Sg v0) := (hch.b.block gS hSl).trans b1
    have b8W : BoxN W w.heap.size 34 #[.int .i64 0, .int .u64 0, .int .u64 0, .int .u64 0, .int .u64 0, .int .u64 0, .int .u64 0, .int .u64 0, .int .u64 0, .int .u64 0, .int .u64 0, .int .u64 0, .int .u64 0, .int .u64 0, .int .u64 0, .int .u64 0, .int .u64 0, .int .u64 0, .int .u64 0, .slice none 0 0] := (hch.b.block _ h8l2).trans b8A
    have hBW := hBA.trans (hch.b.mono hB5.size)
    have hWz := hBW.size
    have hSA := b1.lt
    have c0 := b1W.cell 19
    rw [← HSg.out, sgA_path] at c0
    have hown1 := hown.alloc (.cells #[U64 x] 22)
    have hNews := World.news_of_block (heap_alloc_new W (.cells #[U64 x] 22))
    have hone : ∀ u ∈ [U64 x], u.oneCell' = true := by simp [Value.oneCell']
    have hcr := own_cellsrow' hownA
    have hzz : S ≤ (W.alloc (.cells #[U64 x] 22)).heap.size := by simp; omega
    have b1a := b1W.alloc (.cells #[U64 x] 22)
    have b8a := b8W.alloc (.cells #[U64 x] 22)
    have hBa := hBW.alloc hWz (.cells #[U64 x] 22)
    have hset : Hid (∀ p p', (Sg p).setIfInBounds 19 p' = Sg p') := fun p p' => by rw [← HSg.out]; exact sgA_set _ _ _ _
    have hpth : Hid (∀ p, (Sg p)[19]? = some p) := fun p => by rw [← HSg.out]; exact sgA_path _ _ _
    have hFin : Hid (∀ (v5 : Value) (w5 : World), w5.ownsRow S 22 1 v5 (pre.length + 1) (pre.map U64 ++ [U64 x]) → (W.alloc (.cells #[U64 x] 22)).grownBy w5 v0.ownBlock →
        w5.cell? ⟨gS, 19, none⟩ = some v0 ∧ w5.frozen? ⟨gS, 19, none⟩ = false ∧ gS < w5.heap.size ∧
        (Gk W0.heap.size S A W (w5.setCell ⟨gS, 19, none⟩ v5) ∧ ∃ v, BoxN (w5.setCell ⟨gS, 19, none⟩ v5) gS 34 (Sg v) ∧ (w5.setCell ⟨gS, 19, none⟩ v5).ownsRow S 22 1 v (pre ++ [x]).length ((pre ++ [x]).map U64) ∧ BoxN (w5.setCell ⟨gS, 19, none⟩ v5) w.heap.size 34 #[.int .i64 0, .int .u64 0, .int .u64 0, .int .u64 0, .int .u64 0, .int .u64 0, .int .u64 0, .int .u64 0, .int .u64 0, .int .u64 0, .int .u64 0, .int .u64 0, .int .u64 0, .int .u64 0, .int .u64 0, .int .u64 0, .int .u64 0, .int .u64 0, .int .u64 0, .slice none 0 0] ∧ Below w.heap.size w (w5.setCell ⟨gS, 19, none⟩ v5))) := fun v5 w5 h5 hg5 => by
      have hb5 : BoxN w5 gS 34 (Sg v0) := (hg5.block gS b1a.lt (fun e => hne e.symm)).trans b1a
      have hb8 : BoxN w5 w.heap.size 34 #[.int .i64 0, .int .u64 0, .int .u64 0, .int .u64 0, .int .u64 0, .int .u64 0, .int .u64 0, .int .u64 0, .int .u64 0, .int .u64 0, .int .u64 0, .int .u64 0, .int .u64 0, .int .u64 0, .int .u64 0, .int .u64 0, .int .u64 0, .int .u64 0, .int .u64 0, .slice none 0 0] := (hg5.block w.heap.size b8a.lt (fun e => hne8 e.symm)).trans b8a
      refine ⟨?_, hb5.frozen 19, hb5.lt, ⟨?_, ?_, ?_⟩, v5, ?_, ?_, hb8.far (by simp; omega) _, ?_⟩
      · rw [hb5.cell 19]; exact hpth.out _
      · have := hg5.size; simp at this ⊢; omega
      · intro k hk1 hk2
        rw [Below.heap_setCell w5 _ _ k (by simp; omega), hg5.block k (by simp; omega) (fun e => by have := hbk0 _ e.symm; omega)]
        exact Below.heap_alloc _ _ _ (by omega)
      · intro k hk1 hk2
        rw [Below.heap_setCell w5 _ _ k (by simp; omega), hg5.block k (by simp; omega) (fun e => hcr k e.symm (by omega))]
        exact Below.heap_alloc _ _ _ hk2
      · have := hb5.set1 19 v5
        rwa [hset.out] at this
      · rw [List.length_append, List.map_append]
        exact own_far' h5 (by simp; omega) v5
      · exact (hBa.grown hg5 (by simp; omega) (fun k e => by have := hbk0 _ e; omega)).setCell (by simp; omega) _
    clear hcr hbk0 b1a b8a b1W b8W hown hBW hBa hownA b1 b8A hBA hpre hset hpth hSs hR4
    gi_wp2_with (gi_at_builtin; refine wpListIn_append_own _ rfl _ _ 32 rfl S 22 i0 _ 1 8 Try.underlying32 hi hz0 hz1 hz2 rfl (by decide) v0 pre.length _ rfl hown1 ⟨W.heap.size, 0, none⟩ 1 1 [U64 x] rfl rfl hNews hone (by unfold maxLen; omega) (by omega) hzz ?_; intro v5 w5 h5 hg5 _; obtain ⟨hat5, hfr5, hl5, hF⟩ := hFin.out v5 w5 h5 hg5; obtain ⟨g5, cg5, rfl⟩ := own_slice h5; have HF5 := Lib.hid hF; clear hF h5 hg5 c0 hown1 hNews)
    exact HF5.out
  case done =>
    rintro S Dk W hD _ hS ⟨v0, b1, hown, b8A, hBA⟩ hK
    rw [pathV_len] at hown
    obtain ⟨g0, c0, rfl⟩ := own_slice hown
    have hq1 : isQ g0 (pathV seed h q) W := isQ_of_own (by rw [pathV_len]; exact hown)
    have hi2 : (Try.prog.info? 34).map (·.size) = some (Sg (.slice g0 h c0)).size := by rw [← HSg.out, sgA_size]; exact info_sig
    have ho2 : (Sg (.slice g0 h c0)).all (·.oneCell') = true := by rw [← HSg.out]; exact sgA_one _ _ _ rfl
    have hs2 : (#[.int .i64 0, .int .u64 0, .int .u64 0, .int .u64 0, .int .u64 0, .int .u64 0, .int .u64 0, .int .u64 0, .int .u64 0, .int .u64 0, .int .u64 0, .int .u64 0, .int .u64 0, .int .u64 0, .int .u64 0, .int .u64 0, .int .u64 0, .int .u64 0, .int .u64 0, .slice none 0 0] : Array Value).size = (Sg (.slice g0 h c0)).size := by rw [← HSg.out, sgA_size]; rfl
    have hT : Hid (Sg (.slice g0 h c0) = sgA q (chainV seed d q) (.slice g0 h c0)) := by unfold Hid; rw [HSg.out]
    have b2 : BoxN (W.setRow w.heap.size (Sg (.slice g0 h c0))) w.heap.size 34 (Sg (.slice g0 h c0)) := BoxN.setRow b8A _
    have hB2 := below_setRow hBA (Nat.le_refl _) (Sg (.slice g0 h c0))
    clear hSs hR4
    generalize Sg (.slice g0 h c0) = T at *
    gi_wp2_with (first | (refine wpListIn_load_rowN (by rfl) 34 _ rfl gS rfl 34 T _ b1 Try.underlying34 rfl hi2 ?_) | (refine wpListIn_store_rowG (by rfl) 34 _ _ rfl rfl w.heap.size T rfl rfl 34 _ b8A hi2 hs2 ho2 ?_))
    have hK2 : (W.setRow w.heap.size T).heap[Dk]? = some (.deferred (some [])) := (setRow_other W w.heap.size Dk T (by omega)).trans hK
    have hown2 : ((W.setRow w.heap.size T).putObj Dk (.deferred none)).ownsRow S 22 1 (.slice g0 h c0) h ((pathV seed h q).map U64) :=
      own_same hown fun k hk => (World.putObj_heap_other (by omega)).trans (setRow_other W w.heap.size k T (by omega))
    have b3 : BoxN ((W.setRow w.heap.size T).putObj Dk (.deferred none)) w.heap.size 34 T := (World.putObj_heap_other (by omega)).trans b2
    refine ⟨by simp, .inl ⟨_, _, rfl, run_takeDeferred hK2, ?_⟩⟩
    exact ⟨.tuple #[.agg T, .int .i64 0], results_cell_tmp Try.results18 _ _ w.heap.size _ T _ rfl b3 Try.underlying34 rfl hi2, g0, c0, by rw [hT.out], isQ_of_own (by rw [pathV_len]; exact hown2), hB2.trans (below_put (by omega)), fun a ea => by have := own_block_le hown2 a.block (by rw [ea]; rfl); omega⟩

theorem sign_ok (seed d : BitVec 64) (h q : Nat) (hh : h ≤ 6) (hq : q < 2 ^ h) (w : World) :
    Calls Try.prog 18 #[U64 seed, .int .i64 h, .int .i64 q, U64 d] w fun e w' => ∃ G c, e = .returned (.tuple #[.agg (sgA q (chainV seed d q) (.slice G h c)), .int .i64 0]) ∧ isQ G (pathV seed h q) w' ∧ Below w.heap.size w w' :=
  (sign_okF seed d h q hh hq w).mono fun _ _ ⟨G, c, h1, h2, h3, _⟩ => ⟨G, c, h1, h2, h3⟩

set_option maxRecDepth 100000 in
theorem sign_bad (seed d : BitVec 64) (h q : Int) (hk : okK q h = false) (w : World) :
    Calls Try.prog 18 #[U64 seed, .int .i64 h, .int .i64 q, U64 d] w fun e w' => e = .returned (.tuple #[.agg #[.int .i64 0, .int .u64 0, .int .u64 0, .int .u64 0, .int .u64 0, .int .u64 0, .int .u64 0, .int .u64 0, .int .u64 0, .int .u64 0, .int .u64 0, .int .u64 0, .int .u64 0, .int .u64 0, .int .u64 0, .int .u64 0, .int .u64 0, .int .u64 0, .int .u64 0, .slice none 0 0], .int .i64 2]) ∧ Below w.heap.size w w' := by
  have HK : Hid (∀ W : World, Calls Try.prog 44 #[.int .i64 q, .int .i64 h] W fun e w' => e = .returned (.bool false) ∧ Below W.heap.size W w') := fun W => by
    have := isKey_any q h W
    rwa [hk] at this
  have hzs := zero_sig
  clear hk
  have hi2 : (Try.prog.info? 34).map (·.size) = some (#[.int .i64 0, .int .u64 0, .int .u64 0, .int .u64 0, .int .u64 0, .int .u64 0, .int .u64 0, .int .u64 0, .int .u64 0, .int .u64 0, .int .u64 0, .int .u64 0, .int .u64 0, .int .u64 0, .int .u64 0, .int .u64 0, .int .u64 0, .int .u64 0, .int .u64 0, .slice none 0 0] : Array Value).size := info_sig
  have ho2 : (#[.int .i64 0, .int .u64 0, .int .u64 0, .int .u64 0, .int .u64 0, .int .u64 0, .int .u64 0, .int .u64 0, .int .u64 0, .int .u64 0, .int .u64 0, .int .u64 0, .int .u64 0, .int .u64 0, .int .u64 0, .int .u64 0, .int .u64 0, .int .u64 0, .int .u64 0, .slice none 0 0] : Array Value).all (·.oneCell') = true := by decide +kernel
  obtain ⟨Z, hZ⟩ : ∃ Z, (#[.int .i64 0, .int .u64 0, .int .u64 0, .int .u64 0, .int .u64 0, .int .u64 0, .int .u64 0, .int .u64 0, .int .u64 0, .int .u64 0, .int .u64 0, .int .u64 0, .int .u64 0, .int .u64 0, .int .u64 0, .int .u64 0, .int .u64 0, .int .u64 0, .int .u64 0, .slice none 0 0] : Array Value) = Z := ⟨_, rfl⟩
  rw [hZ] at hzs hi2 ho2 ⊢
  clear hZ
  go_enter Try.func18, Try.ntmps18
  go_wp2_with fail
  have b8 : BoxN (w.alloc (.cells Z 34)) w.heap.size 34 Z := BoxN.new w _ _
  have hB : Below w.heap.size w (w.alloc (.cells Z 34)) := (Below.refl _ w).alloc (Nat.le_refl _) _
  generalize w.alloc (.cells Z 34) = w0 at b8 hB ⊢
  (with_reducible refine (HK.out _).mono ?_); rintro e w1 ⟨rfl, hb1⟩
  replace b8 := b8.keep hb1
  replace hB := hB.trans (hb1.mono hB.size)
  have b8' : w1.heap[w.heap.size]? = some (.cells Z 34 (0, 0)) := b8
  have b2 : BoxN (w1.setRow w.heap.size Z) w.heap.size 34 Z := b8.setRow _
  have hB2 := below_setRow hB (Nat.le_refl w.heap.size) Z
  go_wp2_with (refine wpList_store_rowTo rfl 34 _ _ rfl rfl w.heap.size Z rfl rfl _ Z b8' hi2 rfl ho2 ?_)
  exact bodyPost_ret (v := .tuple #[.agg Z, .int .i64 2]) (results_cell_tmp Try.results18 _ _ w.heap.size _ Z _ rfl b2 Try.underlying34 rfl hi2) rfl ⟨rfl, hB2⟩
end Go.Proofs.Ytaoipbndmfjmhaa
