/- The law package's own text, some and awake: awake returns true. -/
import Derived.Test.YtcngbipgnpjohaaDoorParse
namespace Go.Proofs.YtcngbipgnpjohaaDoor
open Go.RowKit Go.Joins

/-- A block of two ints, a struct of the call's own. -/
structure Has (W : World) (b : Nat) (n d : Int) : Prop where
  lt : b < W.heap.size
  c0 : W.cell? ⟨b, 0, none⟩ = some (.int .i64 n)
  c1 : W.cell? ⟨b, 1, none⟩ = some (.int .i64 d)
theorem Has.keep {W W' : World} {b : Nat} {n d : Int} (h : Has W b n d) (hb : Below W.heap.size W W') : Has W' b n d :=
  ⟨Nat.lt_of_lt_of_le h.lt hb.size, (hb.cell (p := ⟨b, 0, none⟩) h.lt).trans h.c0, (hb.cell (p := ⟨b, 1, none⟩) h.lt).trans h.c1⟩
theorem Has.new (W : World) (n d : Int) (t : TypeId) : Has (W.alloc (.cells #[.int .i64 n, .int .i64 d] t)) W.heap.size n d :=
  ⟨by simp, (cell_of_block (MapKept.heap_alloc W _).1 0).trans rfl, (cell_of_block (MapKept.heap_alloc W _).1 1).trans rfl⟩
theorem Has.alloc {W : World} {b : Nat} {n d : Int} (h : Has W b n d) (o : Obj) : Has (W.alloc o) b n d := h.keep ((Below.refl _ _).alloc (Nat.le_refl _) _)
theorem Env.alloc {W : World} (h : Env W) (o : Obj) : Env (W.alloc o) := h.keep ((Below.refl _ _).alloc (Nat.le_refl _) _)

theorem below_allocs1 {B : Nat} {w X Y : World} {o : Obj} (hB : Below B w X) (h : B ≤ X.heap.size) (hb : Below (X.alloc o).heap.size (X.alloc o) Y) : Below B w Y := (hB.alloc h o).trans (hb.mono (by simp; omega))

set_option maxHeartbeats 1000000 in
/-- text: String of Make. -/
theorem text_any (n d p q r : Int) (w : World) (he : Env w) (hm : mkN n d = (p, q, r)) (n0 : -9223372036854775808 ≤ n) (n1 : n ≤ 9223372036854775807) (d0 : -9223372036854775808 ≤ d) (d1 : d ≤ 9223372036854775807)
    (p0 : -9223372036854775808 ≤ p) (p1 : p ≤ 9223372036854775807) (q0 : -9223372036854775808 ≤ q) (q1 : q ≤ 9223372036854775807) :
    Calls Tryd.prog 37 #[.int .i64 n, .int .i64 d] w fun e w' => e = .returned (.string ⟨(strN p q).toArray⟩) ∧ Below w.heap.size w w' := by
  have He := Lib.hid he
  have Hm := Lib.hid hm
  clear he hm
  go_enter Tryd.func37, Tryd.ntmps37
  go_wp2_with fail
  refine (make_any n d _ n0 n1 d0 d1).mono ?_; rintro e w1 ⟨rfl, hb1⟩; rw [Hm.out]
  simp only [ratV]
  go_wp2_with fail
  refine (string_any p q _ ((He.out.keep hb1).alloc _).tab p0 p1 q0 q1).mono ?_; rintro e w2 ⟨rfl, hb2⟩
  have hb := Lib.hid (below_allocs1 hb1 hb1.size hb2)
  clear hb1 hb2
  go_wp2
  go_ret
  exact ⟨rfl, hb.out⟩

/-- What stands in the call's own memory: blocks of two ints. -/
structure Sts (w W : World) (l : List (Nat × Int × Int)) : Prop where
  e : Env W
  b : Below w.heap.size w W
  h : ∀ x ∈ l, Has W x.1 x.2.1 x.2.2
theorem Sts.keep {w W W' : World} {l : List (Nat × Int × Int)} (s : Sts w W l) (hb : Below W.heap.size W W') : Sts w W' l :=
  ⟨s.e.keep hb, s.b.trans (hb.mono s.b.size), fun x hx => (s.h x hx).keep hb⟩
theorem Sts.new {w W : World} {l : List (Nat × Int × Int)} (s : Sts w W l) (n d : Int) (t : TypeId) : Sts w (W.alloc (.cells #[.int .i64 n, .int .i64 d] t)) ((W.heap.size, n, d) :: l) :=
  ⟨s.e.alloc _, s.b.alloc s.b.size _, fun x hx => by
    rcases List.mem_cons.1 hx with rfl | hx
    · exact Has.new _ _ _ _
    · exact (s.h x hx).alloc _⟩
theorem Sts.get {w W : World} {l : List (Nat × Int × Int)} (s : Sts w W l) (b : Nat) (n d : Int) (hx : (b, n, d) ∈ l) : Has W b n d := s.h _ hx
theorem Sts.start {w : World} (e : Env w) : Sts w w [] := ⟨e, Below.refl _ _, fun _ h => by cases h⟩
theorem Sts.drew1 {w W : World} {l : List (Nat × Int × Int)} (s : Sts w W l) : Sts w W.drew l := s.keep ((Below.refl _ _).drew)
theorem Sts.drew {w W : World} {l : List (Nat × Int × Int)} (s : Sts w W l) (k : Nat) : Sts w (W.drewN k) l := s.keep (below_drewN (Below.refl _ _) _)

/-- The three texts that no number has, in the slice that awake makes. -/
structure Texts (W : World) (b : Nat) : Prop where
  lt : b < W.heap.size
  c0 : W.cell? ⟨b, 0, none⟩ = some (.string ⟨#[52, 47, 54]⟩)
  c1 : W.cell? ⟨b, 1, none⟩ = some (.string ⟨#[45, 48]⟩)
  c2 : W.cell? ⟨b, 2, none⟩ = some (.string ⟨#[49, 47, 49]⟩)
theorem Texts.keep {W W' : World} {b : Nat} (h : Texts W b) (hb : Below W.heap.size W W') : Texts W' b :=
  ⟨Nat.lt_of_lt_of_le h.lt hb.size, (hb.cell (p := ⟨b, 0, none⟩) h.lt).trans h.c0, (hb.cell (p := ⟨b, 1, none⟩) h.lt).trans h.c1, (hb.cell (p := ⟨b, 2, none⟩) h.lt).trans h.c2⟩

structure St (w W : World) (bt bs bq bx bp bl : Nat) : Prop where
  e : Env W
  b : Below w.heap.size w W
  h6 : Has W bt 1 3
  h7 : Has W bs 5 6
  h9 : Has W bq 3 2
  h11 : Has W bx (-3) 2
  h12 : Has W bp 5 6
  tx : Texts W bl
theorem St.keep {w W W' : World} {bt bs bq bx bp bl : Nat} (h : St w W bt bs bq bx bp bl) (hb : Below W.heap.size W W') : St w W' bt bs bq bx bp bl :=
  ⟨h.e.keep hb, h.b.trans (hb.mono h.b.size), h.h6.keep hb, h.h7.keep hb, h.h9.keep hb, h.h11.keep hb, h.h12.keep hb, h.tx.keep hb⟩
theorem St.alloc {w W : World} {bt bs bq bx bp bl : Nat} (h : St w W bt bs bq bx bp bl) (o : Obj) : St w (W.alloc o) bt bs bq bx bp bl := h.keep ((Below.refl _ _).alloc (Nat.le_refl _) _)

theorem mk_a : mkN 1 0 = (0, 0, 2) := by decide +kernel
theorem mk_b : mkN 2147483648 1 = (0, 0, 3) := by decide +kernel
theorem add_c : addN 1 2 1 3 = (5, 6, 0) := by decide +kernel
theorem div_c : divN 1 2 1 3 = (3, 2, 0) := by decide +kernel
theorem parse_c : parseN 5 6 [53, 47, 54] = (5, 6, 0) := by decide +kernel
theorem parse_d : parseN 4 6 [52, 47, 54] = (0, 0, 2) := by decide +kernel
theorem parse_e : parseN 0 1 [45, 48] = (0, 0, 2) := by decide +kernel
theorem parse_f : parseN 1 1 [49, 47, 49] = (0, 0, 2) := by decide +kernel
theorem mk_g : mkN 6 (-4) = (-3, 2, 0) := by decide +kernel
theorem str_g : strN (-3) 2 = [45, 51, 47, 50] := by decide +kernel
theorem str_h : strN 5 6 = [53, 47, 54] := by decide +kernel
theorem str_i : strN 3 2 = [51, 47, 50] := by decide +kernel
theorem floor_j : floorN (-3) 2 = -2 := by decide +kernel
theorem ceil_j : ceilN (-3) 2 = -1 := by decide +kernel
theorem cmp_k : cmpN 1 3 2 5 = -1 := by decide +kernel

set_option maxHeartbeats 4000000 in
set_option maxRecDepth 100000 in
theorem awake_any (w : World) (he : Env w) :
    Calls Tryd.prog 24 #[] w fun e w' => e = .returned (.bool true) ∧ Below w.heap.size w w' := by
  have He := Lib.hid he
  clear he
  go_enter Tryd.func24, Tryd.ntmps24
  go_wp2_with fail
  refine (make_any 1 0 _ (by decide) (by decide) (by decide) (by decide)).mono ?_; rintro e w1 ⟨rfl, hb1⟩; rw [mk_a]
  simp only [ratV]
  go_wp2_with fail
  refine (make_any 2147483648 1 _ (by decide) (by decide) (by decide) (by decide)).mono ?_; rintro e w2 ⟨rfl, hb2⟩; rw [mk_b]
  simp only [ratV]
  replace hb2 := below_allocs1 hb1 hb1.size hb2
  clear hb1
  go_wp2_with fail
  refine (add_any 1 2 1 3 _ (by decide) (by decide) (by decide) (by decide) (by decide) (by decide) (by decide) (by decide)).mono ?_; rintro e w3 ⟨rfl, hb3⟩; rw [add_c]
  simp only [ratV]
  have hB3 := below_allocs1 ((hb2.alloc hb2.size _).alloc (by have := hb2.size; simp; omega) _) (by have := hb2.size; simp; omega) hb3
  have h5 : Has w3 (w2.heap.size + 1) 1 2 := by simpa only [World.size_alloc] using ((Has.new (w2.alloc (.cells #[.int .i64 0, .int .i64 0] 23)) 1 2 23).alloc _).keep hb3
  have h6 : Has w3 (w2.heap.size + 1 + 1) 1 3 := by simpa only [World.size_alloc] using (Has.new ((w2.alloc (.cells #[.int .i64 0, .int .i64 0] 23)).alloc (.cells #[.int .i64 1, .int .i64 2] 23)) 1 3 23).keep hb3
  clear hb3 hb2
  generalize w2.heap.size + 1 + 1 = bt at h6 ⊢
  generalize w2.heap.size + 1 = bh at h5 ⊢
  obtain ⟨l5, x5, y5⟩ := h5.alloc (.cells #[.int .i64 5, .int .i64 6] 23)
  obtain ⟨l6, x6, y6⟩ := h6.alloc (.cells #[.int .i64 5, .int .i64 6] 23)
  go_wp2_with fail
  refine (div_any 1 2 1 3 _ (by decide) (by decide) (by decide) (by decide) (by decide) (by decide) (by decide) (by decide)).mono ?_; rintro e w4 ⟨rfl, hb4⟩; rw [div_c]
  simp only [ratV]
  have hB4 := below_allocs1 hB3 hB3.size hb4
  replace h6 := (h6.alloc _).keep hb4
  have h7 := (Has.new w3 5 6 23).keep hb4
  clear h5 l5 x5 y5 l6 x6 y6 hb4 hB3
  generalize w3.heap.size = bs at h7 ⊢
  have e4 := ((He.out.keep hB4).alloc (.cells #[.int .i64 3, .int .i64 2] 23)).alloc (.cells #[.int .i64 (-3), .int .i64 2] 23)
  go_wp2_with fail
  refine (parse_any ⟨#[53, 47, 54]⟩ ⟨#[53]⟩ ⟨#[54]⟩ ⟨#[54]⟩ true 5 6 _ e4 (by decide) (by decide +kernel) rfl (by decide +kernel) (by decide +kernel) (by decide) (by decide) (by decide) (by decide) (by decide) (by decide)).mono ?_
  rintro e w5 ⟨rfl, hb5⟩
  rw [show parseN 5 6 (ByteArray.mk #[53, 47, 54]).data.toList = (5, 6, 0) from parse_c]
  simp only [ratV]
  have hB5 := below_allocs1 (hB4.alloc hB4.size _) (by have := hB4.size; simp; omega) hb5
  replace h6 := ((h6.alloc _).alloc _).keep hb5
  replace h7 := ((h7.alloc _).alloc _).keep hb5
  have h9 := ((Has.new w4 3 2 23).alloc _).keep hb5
  have h11 : Has w5 (w4.heap.size + 1) (-3) 2 := by simpa only [World.size_alloc] using (Has.new (w4.alloc (.cells #[.int .i64 3, .int .i64 2] 23)) (-3) 2 23).keep hb5
  have e5 := (e4.keep hb5).alloc (.cells #[.int .i64 5, .int .i64 6] 23)
  clear hb5 hB4 e4
  generalize w4.heap.size + 1 = bx at h11 ⊢
  generalize w4.heap.size = bq at h9 ⊢
  go_wp2_with fail
  have h12 := (Has.new w5 5 6 23).alloc (.cells #[.string ⟨#[52, 47, 54]⟩, .string ⟨#[45, 48]⟩, .string ⟨#[49, 47, 49]⟩] 9)
  have tx : Texts ((w5.alloc (.cells #[.int .i64 5, .int .i64 6] 23)).alloc (.cells #[.string ⟨#[52, 47, 54]⟩, .string ⟨#[45, 48]⟩, .string ⟨#[49, 47, 49]⟩] 9)) (w5.heap.size + 1) :=
    ⟨by simp, (cell_of_block (w := (w5.alloc (.cells #[.int .i64 5, .int .i64 6] 23)).alloc (.cells #[.string ⟨#[52, 47, 54]⟩, .string ⟨#[45, 48]⟩, .string ⟨#[49, 47, 49]⟩] 9)) (by simpa only [World.size_alloc] using (MapKept.heap_alloc (w5.alloc (.cells #[.int .i64 5, .int .i64 6] 23)) _).1) 0).trans rfl,
      (cell_of_block (w := (w5.alloc (.cells #[.int .i64 5, .int .i64 6] 23)).alloc (.cells #[.string ⟨#[52, 47, 54]⟩, .string ⟨#[45, 48]⟩, .string ⟨#[49, 47, 49]⟩] 9)) (by simpa only [World.size_alloc] using (MapKept.heap_alloc (w5.alloc (.cells #[.int .i64 5, .int .i64 6] 23)) _).1) 1).trans rfl,
      (cell_of_block (w := (w5.alloc (.cells #[.int .i64 5, .int .i64 6] 23)).alloc (.cells #[.string ⟨#[52, 47, 54]⟩, .string ⟨#[45, 48]⟩, .string ⟨#[49, 47, 49]⟩] 9)) (by simpa only [World.size_alloc] using (MapKept.heap_alloc (w5.alloc (.cells #[.int .i64 5, .int .i64 6] 23)) _).1) 2).trans rfl⟩
  replace e5 := e5.alloc (.cells #[.string ⟨#[52, 47, 54]⟩, .string ⟨#[45, 48]⟩, .string ⟨#[49, 47, 49]⟩] 9)
  have hB6 := (hB5.alloc hB5.size (.cells #[.int .i64 5, .int .i64 6] 23)).alloc (by have := hB5.size; simp; omega) (.cells #[.string ⟨#[52, 47, 54]⟩, .string ⟨#[45, 48]⟩, .string ⟨#[49, 47, 49]⟩] 9)
  replace h6 := (h6.alloc (.cells #[.int .i64 5, .int .i64 6] 23)).alloc (.cells #[.string ⟨#[52, 47, 54]⟩, .string ⟨#[45, 48]⟩, .string ⟨#[49, 47, 49]⟩] 9)
  replace h7 := (h7.alloc (.cells #[.int .i64 5, .int .i64 6] 23)).alloc (.cells #[.string ⟨#[52, 47, 54]⟩, .string ⟨#[45, 48]⟩, .string ⟨#[49, 47, 49]⟩] 9)
  replace h9 := (h9.alloc (.cells #[.int .i64 5, .int .i64 6] 23)).alloc (.cells #[.string ⟨#[52, 47, 54]⟩, .string ⟨#[45, 48]⟩, .string ⟨#[49, 47, 49]⟩] 9)
  replace h11 := (h11.alloc (.cells #[.int .i64 5, .int .i64 6] 23)).alloc (.cells #[.string ⟨#[52, 47, 54]⟩, .string ⟨#[45, 48]⟩, .string ⟨#[49, 47, 49]⟩] 9)
  clear hB5
  generalize (w5.alloc (.cells #[.int .i64 5, .int .i64 6] 23)).alloc (.cells #[.string ⟨#[52, 47, 54]⟩, .string ⟨#[45, 48]⟩, .string ⟨#[49, 47, 49]⟩] 9) = w6 at *
  generalize w5.heap.size + 1 = bl at *
  generalize w5.heap.size = bp at *
  have st : St w w6 bt bs bq bx bp bl := ⟨e5, hB6, h6, h7, h9, h11, h12, tx⟩
  clear e5 hB6 h6 h7 h9 h11 h12 tx
  refine wp_loop_rounds 4 ?_
  rw [rounds_succ]
  obtain ⟨tlt, t0, t1, t2⟩ := st.tx
  go_wp2_with fail
  refine (parse_any ⟨#[52, 47, 54]⟩ ⟨#[52]⟩ ⟨#[54]⟩ ⟨#[54]⟩ true 4 6 _ st.e (by decide) (by decide +kernel) rfl (by decide +kernel) (by decide +kernel) (by decide) (by decide) (by decide) (by decide) (by decide) (by decide)).mono ?_
  rintro e w7 ⟨rfl, hb7⟩
  rw [show parseN 4 6 (ByteArray.mk #[52, 47, 54]).data.toList = (0, 0, 2) from parse_d]
  simp only [ratV]
  replace st := (st.keep hb7).alloc (.cells #[.int .i64 0, .int .i64 0] 23)
  clear hb7 tlt t0 t1 t2
  obtain ⟨tlt, t0, t1, t2⟩ := st.tx
  go_wp2_with fail
  rw [rounds_succ]
  go_wp2_with fail
  refine (parse_any ⟨#[45, 48]⟩ ⟨#[45, 48]⟩ ⟨#[]⟩ ⟨#[49]⟩ false 0 1 _ st.e (by decide) (by decide +kernel) rfl (by decide +kernel) (by decide +kernel) (by decide) (by decide) (by decide) (by decide) (by decide) (by decide)).mono ?_
  rintro e w8 ⟨rfl, hb8⟩
  rw [show parseN 0 1 (ByteArray.mk #[45, 48]).data.toList = (0, 0, 2) from parse_e]
  simp only [ratV]
  replace st := (st.keep hb8).alloc (.cells #[.int .i64 0, .int .i64 0] 23)
  clear hb8 tlt t0 t1 t2
  obtain ⟨tlt, t0, t1, t2⟩ := st.tx
  go_wp2_with fail
  rw [rounds_succ]
  go_wp2_with fail
  refine (parse_any ⟨#[49, 47, 49]⟩ ⟨#[49]⟩ ⟨#[49]⟩ ⟨#[49]⟩ true 1 1 _ st.e (by decide) (by decide +kernel) rfl (by decide +kernel) (by decide +kernel) (by decide) (by decide) (by decide) (by decide) (by decide) (by decide)).mono ?_
  rintro e w9 ⟨rfl, hb9⟩
  rw [show parseN 1 1 (ByteArray.mk #[49, 47, 49]).data.toList = (0, 0, 2) from parse_f]
  simp only [ratV]
  replace st := (st.keep hb9).alloc (.cells #[.int .i64 0, .int .i64 0] 23)
  clear hb9 tlt t0 t1 t2
  go_wp2_with fail
  rw [rounds_succ]
  go_wp2_with fail
  generalize w9.alloc (.cells #[.int .i64 0, .int .i64 0] 23) = v0 at st ⊢
  refine (text_any 6 (-4) (-3) 2 0 _ st.e mk_g (by decide) (by decide) (by decide) (by decide) (by decide) (by decide) (by decide) (by decide)).mono ?_
  rintro e v1 ⟨rfl, hb⟩
  rw [str_g]
  replace st := st.keep hb
  clear hb
  obtain ⟨g0, g1, g2⟩ := st.h7
  go_wp2_with fail
  refine (string_any 5 6 _ st.e.tab (by decide) (by decide) (by decide) (by decide)).mono ?_
  rintro e v2 ⟨rfl, hb⟩
  rw [str_h]
  replace st := st.keep hb
  clear hb g0 g1 g2
  obtain ⟨g0, g1, g2⟩ := st.h9
  go_wp2_with fail
  refine (string_any 3 2 _ st.e.tab (by decide) (by decide) (by decide) (by decide)).mono ?_
  rintro e v3 ⟨rfl, hb⟩
  rw [str_i]
  replace st := st.keep hb
  clear hb g0 g1 g2
  obtain ⟨g0, g1, g2⟩ := st.h11
  go_wp2_with fail
  refine (floor_any (-3) 2 _ (by decide) (by decide) (by decide) (by decide)).mono ?_
  rintro e v4 ⟨rfl, hb⟩
  rw [floor_j]
  replace st := st.keep hb
  clear hb g0 g1 g2
  obtain ⟨g0, g1, g2⟩ := st.h11
  go_wp2_with fail
  refine (ceil_any (-3) 2 _ (by decide) (by decide) (by decide) (by decide)).mono ?_
  rintro e v5 ⟨rfl, hb⟩
  rw [ceil_j]
  replace st := st.keep hb
  clear hb g0 g1 g2
  obtain ⟨g0, g1, g2⟩ := st.h6
  go_wp2_with fail
  refine (cmp_any 1 3 2 5 _ (by decide) (by decide) (by decide) (by decide) (by decide) (by decide) (by decide) (by decide)).mono ?_
  rintro e v6 ⟨rfl, hb⟩
  rw [cmp_k]
  replace st := st.keep hb
  clear hb g0 g1 g2
  obtain ⟨g0, g1, g2⟩ := st.h12
  go_wp2_with fail
  go_ret
  exact ⟨rfl, st.b⟩
end Go.Proofs.YtcngbipgnpjohaaDoor
