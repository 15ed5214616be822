/- The walk of the law RatTells: the code and its reference return the same at every input. -/
import Derived.Test.YtcngbipgnpjohaaDoorAwake
import Derived.Test.YtcngbipgnpjohaaDoorRefRound
import Derived.Test.YtcngbipgnpjohaaDoorRefDo
import Derived.Laws.EntriesVeiled
namespace Go.Proofs.YtcngbipgnpjohaaDoor.Tells
open Go.RowKit Go.Joins

/-- The slice of the four operations. -/
structure Fns (W : World) (b : Nat) : Prop where
  lt : b < W.heap.size
  c0 : W.cell? ⟨b, 0, none⟩ = some (.func (.func 19) #[] #[])
  c1 : W.cell? ⟨b, 1, none⟩ = some (.func (.func 20) #[] #[])
  c2 : W.cell? ⟨b, 2, none⟩ = some (.func (.func 21) #[] #[])
  c3 : W.cell? ⟨b, 3, none⟩ = some (.func (.func 22) #[] #[])
theorem Fns.keep {W W' : World} {b : Nat} (h : Fns W b) (hb : Below W.heap.size W W') : Fns W' b :=
  ⟨Nat.lt_of_lt_of_le h.lt hb.size, (hb.cell (p := ⟨b, 0, none⟩) h.lt).trans h.c0, (hb.cell (p := ⟨b, 1, none⟩) h.lt).trans h.c1, (hb.cell (p := ⟨b, 2, none⟩) h.lt).trans h.c2, (hb.cell (p := ⟨b, 3, none⟩) h.lt).trans h.c3⟩
theorem Fns.new (W : World) (t : TypeId) : Fns (W.alloc (.cells #[.func (.func 19) #[] #[], .func (.func 20) #[] #[], .func (.func 21) #[] #[], .func (.func 22) #[] #[]] t)) W.heap.size :=
  ⟨by simp, (cell_of_block (by simpa only [World.size_alloc] using (MapKept.heap_alloc W _).1) 0).trans rfl, (cell_of_block (by simpa only [World.size_alloc] using (MapKept.heap_alloc W _).1) 1).trans rfl, (cell_of_block (by simpa only [World.size_alloc] using (MapKept.heap_alloc W _).1) 2).trans rfl, (cell_of_block (by simpa only [World.size_alloc] using (MapKept.heap_alloc W _).1) 3).trans rfl⟩
theorem stsSub {w W : World} {l l' : List (Nat × Int × Int)} (s : Sts w W l) (hl : ∀ x ∈ l', x ∈ l) : Sts w W l' := ⟨s.e, s.b, fun x hx => s.h x (hl x hx)⟩

set_option maxHeartbeats 20000000 in
set_option maxRecDepth 100000 in
theorem walk (n k a b c d : Int) (w : World) (he : Env w) (n0 : -9223372036854775808 ≤ n) (n1 : n ≤ 9223372036854775807) (k0 : -9223372036854775808 ≤ k) (k1 : k ≤ 9223372036854775807)
    (a0 : -9223372036854775808 ≤ a) (a1 : a ≤ 9223372036854775807) (b0 : -9223372036854775808 ≤ b) (b1 : b ≤ 9223372036854775807) (c0 : -9223372036854775808 ≤ c) (c1 : c ≤ 9223372036854775807) (d0 : -9223372036854775808 ≤ d) (d1 : d ≤ 9223372036854775807) :
    Calls Tryd.prog 3 #[.int .i64 n, .int .i64 k, .agg #[.int .i64 a, .int .i64 b], .agg #[.int .i64 c, .int .i64 d]] w fun e w' => e = .returned (.bool true) ∧ Below w.heap.size w w' := by
  have st := ((Sts.start he).new a b 23).new c d 23
  simp only [World.size_alloc] at st
  clear he
  obtain ⟨m, hm⟩ : ∃ m, m = mkN n k := ⟨_, rfl⟩
  have mk1 : ∀ W : World, Calls Tryd.prog 9 #[.int .i64 n, .int .i64 k] W fun e w' => e = .returned (ratV m) ∧ Below W.heap.size W w' := fun W => by rw [hm]; exact make_any n k W n0 n1 k0 k1
  have mk2 : ∀ W : World, Calls Tryd.prog 10 #[.int .i64 n, .int .i64 k] W fun e w' => e = .returned (ratV m) ∧ Below W.heap.size W w' := fun W => by rw [hm]; exact Ref.make_any n k W n0 n1 k0 k1
  clear hm
  obtain ⟨m1, m2, m3⟩ := m
  simp only [ratV] at mk1 mk2
  have MK1 := Lib.hid mk1
  have MK2 := Lib.hid mk2
  obtain ⟨v, hv⟩ : ∃ v, v = vldB a b := ⟨_, rfl⟩
  obtain ⟨cm, hcm⟩ : ∃ x, x = cmpN a b c d := ⟨_, rfl⟩
  obtain ⟨fl, hfl⟩ : ∃ x, x = floorN a b := ⟨_, rfl⟩
  obtain ⟨ce, hce⟩ : ∃ x, x = ceilN a b := ⟨_, rfl⟩
  obtain ⟨p, hp⟩ : ∃ p, p = addN a b c d := ⟨_, rfl⟩
  have o0 : ∀ W : World, Calls Tryd.prog 19 #[.agg #[.int .i64 a, .int .i64 b], .agg #[.int .i64 c, .int .i64 d]] W fun e w' => e = .returned (ratV p) ∧ Below W.heap.size W w' := fun W => by rw [hp]; exact add_any a b c d W a0 a1 b0 b1 c0 c1 d0 d1
  have r0 : ∀ W : World, Calls Tryd.prog 23 #[.int .i64 0, .agg #[.int .i64 a, .int .i64 b], .agg #[.int .i64 c, .int .i64 d]] W fun e w' => e = .returned (ratV p) ∧ Below W.heap.size W w' := fun W => by rw [hp]; exact Ref.do_add_any a b c d W a0 a1 b0 b1 c0 c1 d0 d1
  clear hp
  obtain ⟨p1, p2, p3⟩ := p
  simp only [ratV] at o0 r0
  have O0 := Lib.hid o0
  have R0 := Lib.hid r0
  clear o0 r0
  obtain ⟨q, hq⟩ : ∃ q, q = subN a b c d := ⟨_, rfl⟩
  have o1 : ∀ W : World, Calls Tryd.prog 20 #[.agg #[.int .i64 a, .int .i64 b], .agg #[.int .i64 c, .int .i64 d]] W fun e w' => e = .returned (ratV q) ∧ Below W.heap.size W w' := fun W => by rw [hq]; exact sub_any a b c d W a0 a1 b0 b1 c0 c1 d0 d1
  have r1 : ∀ W : World, Calls Tryd.prog 23 #[.int .i64 1, .agg #[.int .i64 a, .int .i64 b], .agg #[.int .i64 c, .int .i64 d]] W fun e w' => e = .returned (ratV q) ∧ Below W.heap.size W w' := fun W => by rw [hq]; exact Ref.do_sub_any a b c d W a0 a1 b0 b1 c0 c1 d0 d1
  clear hq
  obtain ⟨q1, q2, q3⟩ := q
  simp only [ratV] at o1 r1
  have O1 := Lib.hid o1
  have R1 := Lib.hid r1
  clear o1 r1
  obtain ⟨r, hr⟩ : ∃ r, r = mulN a b c d := ⟨_, rfl⟩
  have o2 : ∀ W : World, Calls Tryd.prog 21 #[.agg #[.int .i64 a, .int .i64 b], .agg #[.int .i64 c, .int .i64 d]] W fun e w' => e = .returned (ratV r) ∧ Below W.heap.size W w' := fun W => by rw [hr]; exact mul_any a b c d W a0 a1 b0 b1 c0 c1 d0 d1
  have r2 : ∀ W : World, Calls Tryd.prog 23 #[.int .i64 2, .agg #[.int .i64 a, .int .i64 b], .agg #[.int .i64 c, .int .i64 d]] W fun e w' => e = .returned (ratV r) ∧ Below W.heap.size W w' := fun W => by rw [hr]; exact Ref.do_mul_any a b c d W a0 a1 b0 b1 c0 c1 d0 d1
  clear hr
  obtain ⟨r1, r2, r3⟩ := r
  simp only [ratV] at o2 r2
  have O2 := Lib.hid o2
  have R2 := Lib.hid r2
  clear o2 r2
  obtain ⟨s, hs⟩ : ∃ s, s = divN a b c d := ⟨_, rfl⟩
  have o3 : ∀ W : World, Calls Tryd.prog 22 #[.agg #[.int .i64 a, .int .i64 b], .agg #[.int .i64 c, .int .i64 d]] W fun e w' => e = .returned (ratV s) ∧ Below W.heap.size W w' := fun W => by rw [hs]; exact div_any a b c d W a0 a1 b0 b1 c0 c1 d0 d1
  have r3 : ∀ W : World, Calls Tryd.prog 23 #[.int .i64 3, .agg #[.int .i64 a, .int .i64 b], .agg #[.int .i64 c, .int .i64 d]] W fun e w' => e = .returned (ratV s) ∧ Below W.heap.size W w' := fun W => by rw [hs]; exact Ref.do_div_any a b c d W a0 a1 b0 b1 c0 c1 d0 d1
  clear hs
  obtain ⟨s1, s2, s3⟩ := s
  simp only [ratV] at o3 r3
  have O3 := Lib.hid o3
  have R3 := Lib.hid r3
  clear o3 r3
  have V1 : Hid (∀ W : World, Calls Tryd.prog 11 #[.agg #[.int .i64 a, .int .i64 b]] W fun e w' => e = .returned (.bool v) ∧ Below W.heap.size W w') := fun W => by rw [hv]; exact valid_any a b W a0 a1 b0 b1
  have V2 : Hid (∀ W : World, Calls Tryd.prog 12 #[.agg #[.int .i64 a, .int .i64 b]] W fun e w' => e = .returned (.bool v) ∧ Below W.heap.size W w') := fun W => by rw [hv]; exact Ref.valid_any a b W a0 a1 b0 b1
  have C1 : Hid (∀ W : World, Calls Tryd.prog 13 #[.agg #[.int .i64 a, .int .i64 b], .agg #[.int .i64 c, .int .i64 d]] W fun e w' => e = .returned (.int .i64 cm) ∧ Below W.heap.size W w') := fun W => by rw [hcm]; exact cmp_any a b c d W a0 a1 b0 b1 c0 c1 d0 d1
  have C2 : Hid (∀ W : World, Calls Tryd.prog 14 #[.agg #[.int .i64 a, .int .i64 b], .agg #[.int .i64 c, .int .i64 d]] W fun e w' => e = .returned (.int .i64 cm) ∧ Below W.heap.size W w') := fun W => by rw [hcm]; exact Ref.cmp_any a b c d W a0 a1 b0 b1 c0 c1 d0 d1
  have F1 : Hid (∀ W : World, Calls Tryd.prog 15 #[.agg #[.int .i64 a, .int .i64 b]] W fun e w' => e = .returned (.int .i64 fl) ∧ Below W.heap.size W w') := fun W => by rw [hfl]; exact floor_any a b W a0 a1 b0 b1
  have F2 : Hid (∀ W : World, Calls Tryd.prog 16 #[.agg #[.int .i64 a, .int .i64 b]] W fun e w' => e = .returned (.int .i64 fl) ∧ Below W.heap.size W w') := fun W => by rw [hfl]; exact Ref.floor_any a b W a0 a1 b0 b1
  have G1 : Hid (∀ W : World, Calls Tryd.prog 17 #[.agg #[.int .i64 a, .int .i64 b]] W fun e w' => e = .returned (.int .i64 ce) ∧ Below W.heap.size W w') := fun W => by rw [hce]; exact ceil_any a b W a0 a1 b0 b1
  have G2 : Hid (∀ W : World, Calls Tryd.prog 18 #[.agg #[.int .i64 a, .int .i64 b]] W fun e w' => e = .returned (.int .i64 ce) ∧ Below W.heap.size W w') := fun W => by rw [hce]; exact Ref.ceil_any a b W a0 a1 b0 b1
  clear mk1 mk2 hv hcm hfl hce
  go_enter Tryd.func3, Tryd.ntmps3
  go_wp2_with fail
  refine (MK1.out _).mono ?_; rintro _ w1 ⟨rfl, hb⟩
  replace st := st.keep hb
  clear hb
  obtain ⟨b6, hb6⟩ : ∃ x, x = w.heap.size := ⟨_, rfl⟩
  obtain ⟨b7, hb7⟩ : ∃ x, x = w.heap.size + 1 := ⟨_, rfl⟩
  rw [← hb7] at st ⊢
  rw [← hb6] at st ⊢
  have HB6 := Lib.hid hb6
  have HB7 := Lib.hid hb7
  clear hb6 hb7
  go_wp2_with fail
  refine (MK2.out _).mono ?_; rintro _ w2 ⟨rfl, hb⟩
  replace st := (st.new m1 m2 23).keep hb
  clear hb
  generalize w1.heap.size = b9 at st ⊢
  go_wp2_with fail
  replace st := st.new m1 m2 23
  generalize w2.alloc (.cells #[.int .i64 m1, .int .i64 m2] 23) = v0 at st ⊢
  generalize w2.heap.size = b11 at st ⊢
  have hS : Hid (∀ W W' : World, Sts w W [(b11, m1, m2), (b9, m1, m2), (b7, c, d), (b6, a, b)] → Below W.heap.size W W' → Sts w W' [(b11, m1, m2), (b9, m1, m2), (b7, c, d), (b6, a, b)]) := fun _ _ h hb => h.keep hb
  have s1 : ∀ s : Wd (fun W => Sts w W [(b11, m1, m2), (b9, m1, m2), (b7, c, d), (b6, a, b)]), s.val.cell? ⟨b6, 0, none⟩ = some (.int .i64 a) := fun s => (s.ok.get b6 a b (by simp)).c0
  have s2 : ∀ s : Wd (fun W => Sts w W [(b11, m1, m2), (b9, m1, m2), (b7, c, d), (b6, a, b)]), s.val.cell? ⟨b6, 1, none⟩ = some (.int .i64 b) := fun s => (s.ok.get b6 a b (by simp)).c1
  have s3 : ∀ s : Wd (fun W => Sts w W [(b11, m1, m2), (b9, m1, m2), (b7, c, d), (b6, a, b)]), s.val.cell? ⟨b7, 0, none⟩ = some (.int .i64 c) := fun s => (s.ok.get b7 c d (by simp)).c0
  have s4 : ∀ s : Wd (fun W => Sts w W [(b11, m1, m2), (b9, m1, m2), (b7, c, d), (b6, a, b)]), s.val.cell? ⟨b7, 1, none⟩ = some (.int .i64 d) := fun s => (s.ok.get b7 c d (by simp)).c1
  have s5 : ∀ s : Wd (fun W => Sts w W [(b11, m1, m2), (b9, m1, m2), (b7, c, d), (b6, a, b)]), s.val.cell? ⟨b9, 0, none⟩ = some (.int .i64 m1) := fun s => (s.ok.get b9 m1 m2 (by simp)).c0
  have s6 : ∀ s : Wd (fun W => Sts w W [(b11, m1, m2), (b9, m1, m2), (b7, c, d), (b6, a, b)]), s.val.cell? ⟨b9, 1, none⟩ = some (.int .i64 m2) := fun s => (s.ok.get b9 m1 m2 (by simp)).c1
  have s7 : ∀ s : Wd (fun W => Sts w W [(b11, m1, m2), (b9, m1, m2), (b7, c, d), (b6, a, b)]), s.val.cell? ⟨b11, 0, none⟩ = some (.int .i64 m1) := fun s => (s.ok.get b11 m1 m2 (by simp)).c0
  have s8 : ∀ s : Wd (fun W => Sts w W [(b11, m1, m2), (b9, m1, m2), (b7, c, d), (b6, a, b)]), s.val.cell? ⟨b11, 1, none⟩ = some (.int .i64 m2) := fun s => (s.ok.get b11 m1 m2 (by simp)).c1
  haveI : Nonempty (Wd (fun W => Sts w W [(b11, m1, m2), (b9, m1, m2), (b7, c, d), (b6, a, b)])) := ⟨⟨v0, st⟩⟩
  refine wp_region_cls (fun W => Sts w W [(b11, m1, m2), (b9, m1, m2), (b7, c, d), (b6, a, b)]) (by kernel_rfl) (by kernel_rfl) (st.keep (Below.refl _ _).drew) ?_
  repeat (go_big_quiet_step (first
      | (go_at_call 11; exact Calls.cls hS.out (V1.out _))
      | (go_at_call 12; exact Calls.cls hS.out (V2.out _))
      | (go_at_call 13; exact Calls.cls hS.out (C1.out _))
      | (go_at_call 14; exact Calls.cls hS.out (C2.out _))
      | (go_at_call 15; exact Calls.cls hS.out (F1.out _))
      | (go_at_call 16; exact Calls.cls hS.out (F2.out _))
      | (go_at_call 17; exact Calls.cls hS.out (G1.out _))
      | (go_at_call 18; exact Calls.cls hS.out (G2.out _))))
  refine wpQuiet_nil ?_
  intro _ hw'
  obtain ⟨s0, rfl⟩ := hw'
  have st1 := s0.ok
  generalize s0.val = v1 at st1 ⊢
  clear s1 s2 s3 s4 s5 s6 s7 s8 st hS
  clear MK1 MK2 V1 V2 C1 C2 F1 F2 G1 G2
  replace st1 : Sts w v1 [(b7, c, d), (b6, a, b)] := stsSub st1 (fun x hx => List.mem_cons_of_mem _ (List.mem_cons_of_mem _ hx))
  go_wp2_with fail
  have fn := Fns.new v1 32
  replace st1 := st1.keep ((Below.refl _ _).alloc (Nat.le_refl _) (.cells #[.func (.func 19) #[] #[], .func (.func 20) #[] #[], .func (.func 21) #[] #[], .func (.func 22) #[] #[]] 32))
  generalize v1.alloc (.cells #[.func (.func 19) #[] #[], .func (.func 20) #[] #[], .func (.func 21) #[] #[], .func (.func 22) #[] #[]] 32) = v2 at fn st1 ⊢
  generalize v1.heap.size = bf at fn st1 ⊢
  refine wp_loop_rounds 5 ?_
  rw [rounds_succ]
  obtain ⟨tlt, t0, t1, t2, t3⟩ := fn
  have fn : Fns v2 bf := ⟨tlt, t0, t1, t2, t3⟩
  obtain ⟨g1, g2, g3⟩ := st1.get b6 a b (by simp)
  obtain ⟨e1, e2, e3⟩ := st1.get b7 c d (by simp)
  go_wp2_with fail
  refine (O0.out _).mono ?_; rintro _ x0 ⟨rfl, hb⟩
  replace st1 := (st1.keep hb).new p1 p2 23
  replace fn := (fn.keep hb).keep ((Below.refl _ _).alloc (Nat.le_refl _) (.cells #[.int .i64 p1, .int .i64 p2] 23))
  clear hb tlt t0 t1 t2 t3 g1 g2 g3 e1 e2 e3
  obtain ⟨g1, g2, g3⟩ := st1.get b6 a b (by simp)
  obtain ⟨e1, e2, e3⟩ := st1.get b7 c d (by simp)
  go_wp2_with fail
  refine (R0.out _).mono ?_; rintro _ z0 ⟨rfl, hb⟩
  replace st1 := (st1.keep hb).new p1 p2 23
  replace fn := (fn.keep hb).keep ((Below.refl _ _).alloc (Nat.le_refl _) (.cells #[.int .i64 p1, .int .i64 p2] 23))
  clear hb g1 g2 g3 e1 e2 e3
  obtain ⟨h1, h2, h3⟩ := st1.get x0.heap.size p1 p2 (by simp)
  obtain ⟨k1', k2', k3'⟩ := st1.get z0.heap.size p1 p2 (by simp)
  go_wp2_with fail
  clear h1 h2 h3 k1' k2' k3' O0 R0
  generalize z0.alloc (.cells #[.int .i64 p1, .int .i64 p2] 23) = u0 at st1 fn ⊢
  generalize z0.heap.size = d0 at st1 ⊢
  generalize x0.heap.size = c0 at st1 ⊢
  replace st1 : Sts w u0 [(b7, c, d), (b6, a, b)] := stsSub st1 (fun x hx => List.mem_cons_of_mem _ (List.mem_cons_of_mem _ hx))
  rw [rounds_succ]
  obtain ⟨tlt, t0, t1, t2, t3⟩ := fn
  have fn : Fns u0 bf := ⟨tlt, t0, t1, t2, t3⟩
  obtain ⟨g1, g2, g3⟩ := st1.get b6 a b (by simp)
  obtain ⟨e1, e2, e3⟩ := st1.get b7 c d (by simp)
  go_wp2_with fail
  refine (O1.out _).mono ?_; rintro _ x1 ⟨rfl, hb⟩
  replace st1 := (st1.keep hb).new q1 q2 23
  replace fn := (fn.keep hb).keep ((Below.refl _ _).alloc (Nat.le_refl _) (.cells #[.int .i64 q1, .int .i64 q2] 23))
  clear hb tlt t0 t1 t2 t3 g1 g2 g3 e1 e2 e3
  obtain ⟨g1, g2, g3⟩ := st1.get b6 a b (by simp)
  obtain ⟨e1, e2, e3⟩ := st1.get b7 c d (by simp)
  go_wp2_with fail
  refine (R1.out _).mono ?_; rintro _ z1 ⟨rfl, hb⟩
  replace st1 := (st1.keep hb).new q1 q2 23
  replace fn := (fn.keep hb).keep ((Below.refl _ _).alloc (Nat.le_refl _) (.cells #[.int .i64 q1, .int .i64 q2] 23))
  clear hb g1 g2 g3 e1 e2 e3
  obtain ⟨h1, h2, h3⟩ := st1.get x1.heap.size q1 q2 (by simp)
  obtain ⟨k1', k2', k3'⟩ := st1.get z1.heap.size q1 q2 (by simp)
  go_wp2_with fail
  clear h1 h2 h3 k1' k2' k3' O1 R1
  generalize z1.alloc (.cells #[.int .i64 q1, .int .i64 q2] 23) = u1 at st1 fn ⊢
  generalize z1.heap.size = d1 at st1 ⊢
  generalize x1.heap.size = c1 at st1 ⊢
  replace st1 : Sts w u1 [(b7, c, d), (b6, a, b)] := stsSub st1 (fun x hx => List.mem_cons_of_mem _ (List.mem_cons_of_mem _ hx))
  rw [rounds_succ]
  obtain ⟨tlt, t0, t1, t2, t3⟩ := fn
  have fn : Fns u1 bf := ⟨tlt, t0, t1, t2, t3⟩
  obtain ⟨g1, g2, g3⟩ := st1.get b6 a b (by simp)
  obtain ⟨e1, e2, e3⟩ := st1.get b7 c d (by simp)
  go_wp2_with fail
  refine (O2.out _).mono ?_; rintro _ x2 ⟨rfl, hb⟩
  replace st1 := (st1.keep hb).new r1 r2 23
  replace fn := (fn.keep hb).keep ((Below.refl _ _).alloc (Nat.le_refl _) (.cells #[.int .i64 r1, .int .i64 r2] 23))
  clear hb tlt t0 t1 t2 t3 g1 g2 g3 e1 e2 e3
  obtain ⟨g1, g2, g3⟩ := st1.get b6 a b (by simp)
  obtain ⟨e1, e2, e3⟩ := st1.get b7 c d (by simp)
  go_wp2_with fail
  refine (R2.out _).mono ?_; rintro _ z2 ⟨rfl, hb⟩
  replace st1 := (st1.keep hb).new r1 r2 23
  replace fn := (fn.keep hb).keep ((Below.refl _ _).alloc (Nat.le_refl _) (.cells #[.int .i64 r1, .int .i64 r2] 23))
  clear hb g1 g2 g3 e1 e2 e3
  obtain ⟨h1, h2, h3⟩ := st1.get x2.heap.size r1 r2 (by simp)
  obtain ⟨k1', k2', k3'⟩ := st1.get z2.heap.size r1 r2 (by simp)
  go_wp2_with fail
  clear h1 h2 h3 k1' k2' k3' O2 R2
  generalize z2.alloc (.cells #[.int .i64 r1, .int .i64 r2] 23) = u2 at st1 fn ⊢
  generalize z2.heap.size = d2 at st1 ⊢
  generalize x2.heap.size = c2 at st1 ⊢
  replace st1 : Sts w u2 [(b7, c, d), (b6, a, b)] := stsSub st1 (fun x hx => List.mem_cons_of_mem _ (List.mem_cons_of_mem _ hx))
  rw [rounds_succ]
  obtain ⟨tlt, t0, t1, t2, t3⟩ := fn
  have fn : Fns u2 bf := ⟨tlt, t0, t1, t2, t3⟩
  obtain ⟨g1, g2, g3⟩ := st1.get b6 a b (by simp)
  obtain ⟨e1, e2, e3⟩ := st1.get b7 c d (by simp)
  go_wp2_with fail
  refine (O3.out _).mono ?_; rintro _ x3 ⟨rfl, hb⟩
  replace st1 := (st1.keep hb).new s1 s2 23
  replace fn := (fn.keep hb).keep ((Below.refl _ _).alloc (Nat.le_refl _) (.cells #[.int .i64 s1, .int .i64 s2] 23))
  clear hb tlt t0 t1 t2 t3 g1 g2 g3 e1 e2 e3
  obtain ⟨g1, g2, g3⟩ := st1.get b6 a b (by simp)
  obtain ⟨e1, e2, e3⟩ := st1.get b7 c d (by simp)
  go_wp2_with fail
  refine (R3.out _).mono ?_; rintro _ z3 ⟨rfl, hb⟩
  replace st1 := (st1.keep hb).new s1 s2 23
  replace fn := (fn.keep hb).keep ((Below.refl _ _).alloc (Nat.le_refl _) (.cells #[.int .i64 s1, .int .i64 s2] 23))
  clear hb g1 g2 g3 e1 e2 e3
  obtain ⟨h1, h2, h3⟩ := st1.get x3.heap.size s1 s2 (by simp)
  obtain ⟨k1', k2', k3'⟩ := st1.get z3.heap.size s1 s2 (by simp)
  go_wp2_with fail
  clear h1 h2 h3 k1' k2' k3' O3 R3
  generalize z3.alloc (.cells #[.int .i64 s1, .int .i64 s2] 23) = u3 at st1 fn ⊢
  generalize z3.heap.size = d3 at st1 ⊢
  generalize x3.heap.size = c3 at st1 ⊢
  replace st1 : Sts w u3 [(b7, c, d), (b6, a, b)] := stsSub st1 (fun x hx => List.mem_cons_of_mem _ (List.mem_cons_of_mem _ hx))
  rw [rounds_succ]
  go_wp2_with fail
  refine (awake_any _ st1.e).mono ?_; rintro _ w9 ⟨rfl, hb⟩
  replace st1 := st1.keep hb
  clear hb
  go_wp2_with fail
  go_ret
  exact ⟨rfl, st1.b⟩
end Go.Proofs.YtcngbipgnpjohaaDoor.Tells
