/- The walk of the law RatField. -/
import Derived.Test.YtcngbipgnpjohaaDoorField
import Derived.Test.YtcngbipgnpjohaaDoorOrder
import Derived.Laws.EntriesVeiled
import Derived.Test.YtcngbipgnpjohaaDoorCls
namespace Go.Proofs.YtcngbipgnpjohaaDoor.Field
open Go.RowKit Go.Joins Num Order

/-- What stands in the law's own memory: the three numbers, the sum of the errors, the closure that adds to it. -/
structure FS (w W : World) (bx bY bz bad opb : Nat) (xn xd yn yd zn zd : Int) : Prop where
  e : Env W
  b : Below w.heap.size w W
  x : Has W bx xn xd
  y : Has W bY yn yd
  z : Has W bz zn zd
  bd : Box W bad 24 (.int .i64 0)
  op : Box W opb 39 (.func (.func 26) #[] #[.pointer (some ⟨bad, 0, none⟩)])
theorem FS.keep {w W W' : World} {bx bY bz bad opb : Nat} {xn xd yn yd zn zd : Int} (s : FS w W bx bY bz bad opb xn xd yn yd zn zd) (hb : Below W.heap.size W W') : FS w W' bx bY bz bad opb xn xd yn yd zn zd :=
  ⟨s.e.keep hb, s.b.trans (hb.mono s.b.size), s.x.keep hb, s.y.keep hb, s.z.keep hb, s.bd.keep hb, s.op.keep hb⟩
theorem FS.start {w W : World} {xn xd yn yd zn zd : Int} (e : Env W) (b : Below w.heap.size w W) :
    FS w (((((W.alloc (.cells #[.int .i64 xn, .int .i64 xd] 23)).alloc (.cells #[.int .i64 yn, .int .i64 yd] 23)).alloc (.cells #[.int .i64 zn, .int .i64 zd] 23)).alloc (.cells #[.int .i64 0] 24)).alloc (.cells #[.func (.func 26) #[] #[.pointer (some ⟨W.heap.size + 1 + 1 + 1, 0, none⟩)]] 39))
      W.heap.size (W.heap.size + 1) (W.heap.size + 1 + 1) (W.heap.size + 1 + 1 + 1) (W.heap.size + 1 + 1 + 1 + 1) xn xd yn yd zn zd := by
  have hs := b.size
  refine ⟨((((e.alloc _).alloc _).alloc _).alloc _).alloc _, ?_, ((((Has.new W xn xd _).alloc _).alloc _).alloc _).alloc _, ?_, ?_, ?_, ?_⟩
  · refine Below.alloc (Below.alloc (Below.alloc (Below.alloc (Below.alloc b hs _) ?_ _) ?_ _) ?_ _) ?_ _ <;> simp only [World.size_alloc] <;> omega
  · simpa only [World.size_alloc] using (((Has.new (W.alloc (.cells #[.int .i64 xn, .int .i64 xd] 23)) yn yd 23).alloc _).alloc _).alloc _
  · simpa only [World.size_alloc] using ((Has.new ((W.alloc (.cells #[.int .i64 xn, .int .i64 xd] 23)).alloc (.cells #[.int .i64 yn, .int .i64 yd] 23)) zn zd 23).alloc _).alloc _
  · simpa only [World.size_alloc] using (Box.new (((W.alloc (.cells #[.int .i64 xn, .int .i64 xd] 23)).alloc (.cells #[.int .i64 yn, .int .i64 yd] 23)).alloc (.cells #[.int .i64 zn, .int .i64 zd] 23)) 24 (.int .i64 0)).alloc _
  · simpa only [World.size_alloc] using Box.new ((((W.alloc (.cells #[.int .i64 xn, .int .i64 xd] 23)).alloc (.cells #[.int .i64 yn, .int .i64 yd] 23)).alloc (.cells #[.int .i64 zn, .int .i64 zd] 23)).alloc (.cells #[.int .i64 0] 24)) 39 (.func (.func 26) #[] #[.pointer (some ⟨W.heap.size + 1 + 1 + 1, 0, none⟩)])

set_option maxHeartbeats 20000000 in
set_option maxRecDepth 100000 in
theorem walk (n m k d e f : Int) (w : World) (he : Env w) (n0 : -32768 ≤ n) (n1 : n ≤ 32767) (m0 : -32768 ≤ m) (m1 : m ≤ 32767) (k0 : -32768 ≤ k) (k1 : k ≤ 32767) (d0 : 0 ≤ d) (d1 : d ≤ 255) (e0 : 0 ≤ e) (e1 : e ≤ 255) (f0 : 0 ≤ f) (f1 : f ≤ 255) :
    Calls Tryd.prog 4 #[.int .i16 n, .int .i16 m, .int .i16 k, .int .u8 d, .int .u8 e, .int .u8 f] w fun e w' => e = .returned (.bool true) ∧ Below w.heap.size w w' := by
  have st := Sts.start he
  clear he
  go_enter Tryd.func4, Tryd.ntmps4
  go_wp2_with fail
  refine (some_any n d _ n0 n1 d0 d1).mono ?_; rintro _ w1 ⟨rfl, hb⟩
  replace st := st.keep hb
  clear hb
  go_wp2_with fail
  refine (some_any m e _ m0 m1 e0 e1).mono ?_; rintro _ w2 ⟨rfl, hb⟩
  replace st := st.keep hb
  clear hb
  go_wp2_with fail
  refine (some_any k f _ k0 k1 f0 f1).mono ?_; rintro _ w3 ⟨rfl, hb⟩
  replace st := st.keep hb
  clear hb
  have F := field_facts (some_bd n d) (some_bd m e) (some_bd k f)
  generalize someR n d = r at F ⊢
  generalize someR m e = s at F ⊢
  generalize someR k f = t at F ⊢
  generalize (r + s).num = an at F
  generalize ((r + s).den : Int) = ad at F
  generalize (r * s).num = mn at F
  generalize ((r * s).den : Int) = md at F
  generalize (r + s + t).num = azn at F
  generalize ((r + s + t).den : Int) = azd at F
  generalize (s + t).num = yzn at F
  generalize ((s + t).den : Int) = yzd at F
  generalize (r * s * t).num = mzn at F
  generalize ((r * s * t).den : Int) = mzd at F
  generalize (s * t).num = qn at F
  generalize ((s * t).den : Int) = qd at F
  generalize (r * (s + t)).num = dn at F
  generalize ((r * (s + t)).den : Int) = dd at F
  generalize (r * t).num = nn at F
  generalize ((r * t).den : Int) = nd at F
  generalize r.num = xn at F ⊢
  generalize (r.den : Int) = xd at F ⊢
  generalize s.num = yn at F ⊢
  generalize (s.den : Int) = yd at F ⊢
  generalize t.num = zn at F ⊢
  generalize (t.den : Int) = zd at F ⊢
  go_wp2_with fail
  replace st := FS.start (xn := xn) (xd := xd) (yn := yn) (yd := yd) (zn := zn) (zd := zd) st.e st.b
  generalize (((((w3.alloc (.cells #[.int .i64 xn, .int .i64 xd] 23)).alloc (.cells #[.int .i64 yn, .int .i64 yd] 23)).alloc (.cells #[.int .i64 zn, .int .i64 zd] 23)).alloc (.cells #[.int .i64 0] 24)).alloc (.cells #[.func (.func 26) #[] #[.pointer (some ⟨w3.heap.size + 1 + 1 + 1, 0, none⟩)]] 39)) = v0 at st ⊢
  generalize w3.heap.size + 1 + 1 + 1 + 1 = opb at st ⊢
  generalize w3.heap.size + 1 + 1 + 1 = bad at st ⊢
  generalize w3.heap.size + 1 + 1 = bz at st ⊢
  generalize w3.heap.size + 1 = bY at st ⊢
  generalize w3.heap.size = bx at st ⊢
  have x0 := st.x.c0
  have x1 := st.x.c1
  have y0 := st.y.c0
  have y1 := st.y.c1
  have z0 := st.z.c0
  have z1 := st.z.c1
  have o0 := st.op.c
  dsimp only [List.append]
  have hS : ∀ W W' : World, FS w W bx bY bz bad opb xn xd yn yd zn zd → Below W.heap.size W W' → FS w W' bx bY bz bad opb xn xd yn yd zn zd := fun _ _ h hb => h.keep hb
  have sub_x : ∀ W : World, Calls Tryd.prog 20 #[.agg #[.int .i64 an, .int .i64 ad], .agg #[.int .i64 yn, .int .i64 yd]] W fun e w' => e = .returned (.tuple #[.agg #[.int .i64 xn, .int .i64 xd], .int .i64 0]) ∧ Below W.heap.size W w' := fun W => by
    have h := sub_any an ad yn yd W F.ba.1.1 F.ba.1.2 F.ba.2.1 F.ba.2.2 F.bY.1.1 F.bY.1.2 F.bY.2.1 F.bY.2.2
    rw [F.f19] at h
    exact h
  have hS' := Lib.hid hS
  have sub' := Lib.hid sub_x
  clear hS sub_x x0 x1 y0 y1 z0 z1 o0
  have s1 : ∀ s : Wd (fun W => FS w W bx bY bz bad opb xn xd yn yd zn zd), s.val.cell? ⟨bx, 0, none⟩ = some (.int .i64 xn) := fun s => s.ok.x.c0
  have s2 : ∀ s : Wd (fun W => FS w W bx bY bz bad opb xn xd yn yd zn zd), s.val.cell? ⟨bx, 1, none⟩ = some (.int .i64 xd) := fun s => s.ok.x.c1
  have s3 : ∀ s : Wd (fun W => FS w W bx bY bz bad opb xn xd yn yd zn zd), s.val.cell? ⟨bY, 0, none⟩ = some (.int .i64 yn) := fun s => s.ok.y.c0
  have s4 : ∀ s : Wd (fun W => FS w W bx bY bz bad opb xn xd yn yd zn zd), s.val.cell? ⟨bY, 1, none⟩ = some (.int .i64 yd) := fun s => s.ok.y.c1
  have s5 : ∀ s : Wd (fun W => FS w W bx bY bz bad opb xn xd yn yd zn zd), s.val.cell? ⟨bz, 0, none⟩ = some (.int .i64 zn) := fun s => s.ok.z.c0
  have s6 : ∀ s : Wd (fun W => FS w W bx bY bz bad opb xn xd yn yd zn zd), s.val.cell? ⟨bz, 1, none⟩ = some (.int .i64 zd) := fun s => s.ok.z.c1
  have s7 : ∀ s : Wd (fun W => FS w W bx bY bz bad opb xn xd yn yd zn zd), s.val.cell? ⟨opb, 0, none⟩ = some (.func (.func 26) #[] #[.pointer (some ⟨bad, 0, none⟩)]) := fun s => s.ok.op.c
  have bdx : Hid (∀ s : Wd (fun W => FS w W bx bY bz bad opb xn xd yn yd zn zd), Box s.val bad 24 (.int .i64 0)) := fun s => s.ok.bd
  have opx : Hid (∀ s : Wd (fun W => FS w W bx bY bz bad opb xn xd yn yd zn zd), Box s.val opb 39 (.func (.func 26) #[] #[.pointer (some ⟨bad, 0, none⟩)])) := fun s => s.ok.op
  haveI : Nonempty (Wd (fun W => FS w W bx bY bz bad opb xn xd yn yd zn zd)) := ⟨⟨v0, st⟩⟩
  refine wp_region_cls (fun W => FS w W bx bY bz bad opb xn xd yn yd zn zd) (by kernel_rfl) (by as_aux_lemma => kernel_rfl) (st.keep (Below.refl _ _).drew) ?_
  repeat (go_big_quiet_step (first
      | (go_at_call 27; exact Calls.cls hS'.out (add_cl _ _ _ _ _ _ bad opb _ (bdx.out _) (opx.out _) (by first | exact F.f1 | exact F.f2 | exact F.f6 | exact F.f7 | exact F.f8 | exact F.f17) (by first | exact F.bx.1.1 | exact F.bx.2.1 | exact F.bY.1.1 | exact F.bY.2.1 | exact F.bz.1.1 | exact F.bz.2.1 | exact F.ba.1.1 | exact F.ba.2.1 | exact F.bm.1.1 | exact F.bm.2.1 | exact F.byz.1.1 | exact F.byz.2.1 | exact F.bq.1.1 | exact F.bq.2.1 | exact F.bn.1.1 | exact F.bn.2.1) (by first | exact F.bx.1.2 | exact F.bx.2.2 | exact F.bY.1.2 | exact F.bY.2.2 | exact F.bz.1.2 | exact F.bz.2.2 | exact F.ba.1.2 | exact F.ba.2.2 | exact F.bm.1.2 | exact F.bm.2.2 | exact F.byz.1.2 | exact F.byz.2.2 | exact F.bq.1.2 | exact F.bq.2.2 | exact F.bn.1.2 | exact F.bn.2.2) (by first | exact F.bx.1.1 | exact F.bx.2.1 | exact F.bY.1.1 | exact F.bY.2.1 | exact F.bz.1.1 | exact F.bz.2.1 | exact F.ba.1.1 | exact F.ba.2.1 | exact F.bm.1.1 | exact F.bm.2.1 | exact F.byz.1.1 | exact F.byz.2.1 | exact F.bq.1.1 | exact F.bq.2.1 | exact F.bn.1.1 | exact F.bn.2.1) (by first | exact F.bx.1.2 | exact F.bx.2.2 | exact F.bY.1.2 | exact F.bY.2.2 | exact F.bz.1.2 | exact F.bz.2.2 | exact F.ba.1.2 | exact F.ba.2.2 | exact F.bm.1.2 | exact F.bm.2.2 | exact F.byz.1.2 | exact F.byz.2.2 | exact F.bq.1.2 | exact F.bq.2.2 | exact F.bn.1.2 | exact F.bn.2.2) (by first | exact F.bx.1.1 | exact F.bx.2.1 | exact F.bY.1.1 | exact F.bY.2.1 | exact F.bz.1.1 | exact F.bz.2.1 | exact F.ba.1.1 | exact F.ba.2.1 | exact F.bm.1.1 | exact F.bm.2.1 | exact F.byz.1.1 | exact F.byz.2.1 | exact F.bq.1.1 | exact F.bq.2.1 | exact F.bn.1.1 | exact F.bn.2.1) (by first | exact F.bx.1.2 | exact F.bx.2.2 | exact F.bY.1.2 | exact F.bY.2.2 | exact F.bz.1.2 | exact F.bz.2.2 | exact F.ba.1.2 | exact F.ba.2.2 | exact F.bm.1.2 | exact F.bm.2.2 | exact F.byz.1.2 | exact F.byz.2.2 | exact F.bq.1.2 | exact F.bq.2.2 | exact F.bn.1.2 | exact F.bn.2.2) (by first | exact F.bx.1.1 | exact F.bx.2.1 | exact F.bY.1.1 | exact F.bY.2.1 | exact F.bz.1.1 | exact F.bz.2.1 | exact F.ba.1.1 | exact F.ba.2.1 | exact F.bm.1.1 | exact F.bm.2.1 | exact F.byz.1.1 | exact F.byz.2.1 | exact F.bq.1.1 | exact F.bq.2.1 | exact F.bn.1.1 | exact F.bn.2.1) (by first | exact F.bx.1.2 | exact F.bx.2.2 | exact F.bY.1.2 | exact F.bY.2.2 | exact F.bz.1.2 | exact F.bz.2.2 | exact F.ba.1.2 | exact F.ba.2.2 | exact F.bm.1.2 | exact F.bm.2.2 | exact F.byz.1.2 | exact F.byz.2.2 | exact F.bq.1.2 | exact F.bq.2.2 | exact F.bn.1.2 | exact F.bn.2.2)))
      | (go_at_call 28; exact Calls.cls hS'.out (mul_cl _ _ _ _ _ _ bad opb _ (bdx.out _) (opx.out _) (by first | exact F.f3 | exact F.f4 | exact F.f10 | exact F.f11 | exact F.f12 | exact F.f14 | exact F.f16) (by first | exact F.bx.1.1 | exact F.bx.2.1 | exact F.bY.1.1 | exact F.bY.2.1 | exact F.bz.1.1 | exact F.bz.2.1 | exact F.ba.1.1 | exact F.ba.2.1 | exact F.bm.1.1 | exact F.bm.2.1 | exact F.byz.1.1 | exact F.byz.2.1 | exact F.bq.1.1 | exact F.bq.2.1 | exact F.bn.1.1 | exact F.bn.2.1) (by first | exact F.bx.1.2 | exact F.bx.2.2 | exact F.bY.1.2 | exact F.bY.2.2 | exact F.bz.1.2 | exact F.bz.2.2 | exact F.ba.1.2 | exact F.ba.2.2 | exact F.bm.1.2 | exact F.bm.2.2 | exact F.byz.1.2 | exact F.byz.2.2 | exact F.bq.1.2 | exact F.bq.2.2 | exact F.bn.1.2 | exact F.bn.2.2) (by first | exact F.bx.1.1 | exact F.bx.2.1 | exact F.bY.1.1 | exact F.bY.2.1 | exact F.bz.1.1 | exact F.bz.2.1 | exact F.ba.1.1 | exact F.ba.2.1 | exact F.bm.1.1 | exact F.bm.2.1 | exact F.byz.1.1 | exact F.byz.2.1 | exact F.bq.1.1 | exact F.bq.2.1 | exact F.bn.1.1 | exact F.bn.2.1) (by first | exact F.bx.1.2 | exact F.bx.2.2 | exact F.bY.1.2 | exact F.bY.2.2 | exact F.bz.1.2 | exact F.bz.2.2 | exact F.ba.1.2 | exact F.ba.2.2 | exact F.bm.1.2 | exact F.bm.2.2 | exact F.byz.1.2 | exact F.byz.2.2 | exact F.bq.1.2 | exact F.bq.2.2 | exact F.bn.1.2 | exact F.bn.2.2) (by first | exact F.bx.1.1 | exact F.bx.2.1 | exact F.bY.1.1 | exact F.bY.2.1 | exact F.bz.1.1 | exact F.bz.2.1 | exact F.ba.1.1 | exact F.ba.2.1 | exact F.bm.1.1 | exact F.bm.2.1 | exact F.byz.1.1 | exact F.byz.2.1 | exact F.bq.1.1 | exact F.bq.2.1 | exact F.bn.1.1 | exact F.bn.2.1) (by first | exact F.bx.1.2 | exact F.bx.2.2 | exact F.bY.1.2 | exact F.bY.2.2 | exact F.bz.1.2 | exact F.bz.2.2 | exact F.ba.1.2 | exact F.ba.2.2 | exact F.bm.1.2 | exact F.bm.2.2 | exact F.byz.1.2 | exact F.byz.2.2 | exact F.bq.1.2 | exact F.bq.2.2 | exact F.bn.1.2 | exact F.bn.2.2) (by first | exact F.bx.1.1 | exact F.bx.2.1 | exact F.bY.1.1 | exact F.bY.2.1 | exact F.bz.1.1 | exact F.bz.2.1 | exact F.ba.1.1 | exact F.ba.2.1 | exact F.bm.1.1 | exact F.bm.2.1 | exact F.byz.1.1 | exact F.byz.2.1 | exact F.bq.1.1 | exact F.bq.2.1 | exact F.bn.1.1 | exact F.bn.2.1) (by first | exact F.bx.1.2 | exact F.bx.2.2 | exact F.bY.1.2 | exact F.bY.2.2 | exact F.bz.1.2 | exact F.bz.2.2 | exact F.ba.1.2 | exact F.ba.2.2 | exact F.bm.1.2 | exact F.bm.2.2 | exact F.byz.1.2 | exact F.byz.2.2 | exact F.bq.1.2 | exact F.bq.2.2 | exact F.bn.1.2 | exact F.bn.2.2)))
      | (go_at_call 20; exact Calls.cls hS'.out (sub'.out _))
      | (go_at_call 26; exact Calls.cls hS'.out (op_any xn xd bad _ (bdx.out _)))))
  refine wpQuiet_nil ?_
  intro _ hw'
  obtain ⟨⟨v1, st1⟩, rfl⟩ := hw'
  clear s1 s2 s3 s4 s5 s6 s7 st
  have y0 := st1.y.c0
  by_cases h0 : yn = 0
  · have hb0 : (yn == 0) = true := by simp [h0]
    have hb1 : (yn != 0) = false := by simp [h0]
    have H0 := Lib.hid h0
    have b0 := st1.bd.c
    clear h0
    go_wp2_with fail
    refine (awake_any _ st1.e).mono ?_; rintro _ v2 ⟨rfl, hb⟩
    replace st1 := st1.keep hb
    clear hb y0 b0
    go_wp2
    go_ret
    exact ⟨rfl, st1.b⟩
  · have hb0 : (yn == 0) = false := by simpa using h0
    have hb1 : (yn != 0) = true := by simpa using h0
    have div_x : ∀ W : World, Calls Tryd.prog 22 #[.agg #[.int .i64 mn, .int .i64 md], .agg #[.int .i64 yn, .int .i64 yd]] W fun e w' => e = .returned (.tuple #[.agg #[.int .i64 xn, .int .i64 xd], .int .i64 0]) ∧ Below W.heap.size W w' := fun W => by
      have h := div_any mn md yn yd W F.bm.1.1 F.bm.1.2 F.bm.2.1 F.bm.2.2 F.bY.1.1 F.bY.1.2 F.bY.2.1 F.bY.2.2
      rw [F.f22 h0] at h
      exact h
    have div' := Lib.hid div_x
    clear div_x h0
    go_wp2_with fail
    have s1 : ∀ s : Wd (fun W => FS w W bx bY bz bad opb xn xd yn yd zn zd), s.val.cell? ⟨bx, 0, none⟩ = some (.int .i64 xn) := fun s => s.ok.x.c0
    have s2 : ∀ s : Wd (fun W => FS w W bx bY bz bad opb xn xd yn yd zn zd), s.val.cell? ⟨bx, 1, none⟩ = some (.int .i64 xd) := fun s => s.ok.x.c1
    have s3 : ∀ s : Wd (fun W => FS w W bx bY bz bad opb xn xd yn yd zn zd), s.val.cell? ⟨bY, 0, none⟩ = some (.int .i64 yn) := fun s => s.ok.y.c0
    have s4 : ∀ s : Wd (fun W => FS w W bx bY bz bad opb xn xd yn yd zn zd), s.val.cell? ⟨bY, 1, none⟩ = some (.int .i64 yd) := fun s => s.ok.y.c1
    have s7 : ∀ s : Wd (fun W => FS w W bx bY bz bad opb xn xd yn yd zn zd), s.val.cell? ⟨opb, 0, none⟩ = some (.func (.func 26) #[] #[.pointer (some ⟨bad, 0, none⟩)]) := fun s => s.ok.op.c
    refine wp_region_cls (fun W => FS w W bx bY bz bad opb xn xd yn yd zn zd) (by kernel_rfl) (by kernel_rfl) (st1.keep (Below.refl _ _).drew) ?_
    repeat (go_big_quiet_step (first
      | (go_at_call 28; exact Calls.cls hS'.out (mul_cl _ _ _ _ _ _ bad opb _ (bdx.out _) (opx.out _) (by first | exact F.f3 | exact F.f4 | exact F.f10 | exact F.f11 | exact F.f12 | exact F.f14 | exact F.f16) (by first | exact F.bx.1.1 | exact F.bx.2.1 | exact F.bY.1.1 | exact F.bY.2.1 | exact F.bz.1.1 | exact F.bz.2.1 | exact F.ba.1.1 | exact F.ba.2.1 | exact F.bm.1.1 | exact F.bm.2.1 | exact F.byz.1.1 | exact F.byz.2.1 | exact F.bq.1.1 | exact F.bq.2.1 | exact F.bn.1.1 | exact F.bn.2.1) (by first | exact F.bx.1.2 | exact F.bx.2.2 | exact F.bY.1.2 | exact F.bY.2.2 | exact F.bz.1.2 | exact F.bz.2.2 | exact F.ba.1.2 | exact F.ba.2.2 | exact F.bm.1.2 | exact F.bm.2.2 | exact F.byz.1.2 | exact F.byz.2.2 | exact F.bq.1.2 | exact F.bq.2.2 | exact F.bn.1.2 | exact F.bn.2.2) (by first | exact F.bx.1.1 | exact F.bx.2.1 | exact F.bY.1.1 | exact F.bY.2.1 | exact F.bz.1.1 | exact F.bz.2.1 | exact F.ba.1.1 | exact F.ba.2.1 | exact F.bm.1.1 | exact F.bm.2.1 | exact F.byz.1.1 | exact F.byz.2.1 | exact F.bq.1.1 | exact F.bq.2.1 | exact F.bn.1.1 | exact F.bn.2.1) (by first | exact F.bx.1.2 | exact F.bx.2.2 | exact F.bY.1.2 | exact F.bY.2.2 | exact F.bz.1.2 | exact F.bz.2.2 | exact F.ba.1.2 | exact F.ba.2.2 | exact F.bm.1.2 | exact F.bm.2.2 | exact F.byz.1.2 | exact F.byz.2.2 | exact F.bq.1.2 | exact F.bq.2.2 | exact F.bn.1.2 | exact F.bn.2.2) (by first | exact F.bx.1.1 | exact F.bx.2.1 | exact F.bY.1.1 | exact F.bY.2.1 | exact F.bz.1.1 | exact F.bz.2.1 | exact F.ba.1.1 | exact F.ba.2.1 | exact F.bm.1.1 | exact F.bm.2.1 | exact F.byz.1.1 | exact F.byz.2.1 | exact F.bq.1.1 | exact F.bq.2.1 | exact F.bn.1.1 | exact F.bn.2.1) (by first | exact F.bx.1.2 | exact F.bx.2.2 | exact F.bY.1.2 | exact F.bY.2.2 | exact F.bz.1.2 | exact F.bz.2.2 | exact F.ba.1.2 | exact F.ba.2.2 | exact F.bm.1.2 | exact F.bm.2.2 | exact F.byz.1.2 | exact F.byz.2.2 | exact F.bq.1.2 | exact F.bq.2.2 | exact F.bn.1.2 | exact F.bn.2.2) (by first | exact F.bx.1.1 | exact F.bx.2.1 | exact F.bY.1.1 | exact F.bY.2.1 | exact F.bz.1.1 | exact F.bz.2.1 | exact F.ba.1.1 | exact F.ba.2.1 | exact F.bm.1.1 | exact F.bm.2.1 | exact F.byz.1.1 | exact F.byz.2.1 | exact F.bq.1.1 | exact F.bq.2.1 | exact F.bn.1.1 | exact F.bn.2.1) (by first | exact F.bx.1.2 | exact F.bx.2.2 | exact F.bY.1.2 | exact F.bY.2.2 | exact F.bz.1.2 | exact F.bz.2.2 | exact F.ba.1.2 | exact F.ba.2.2 | exact F.bm.1.2 | exact F.bm.2.2 | exact F.byz.1.2 | exact F.byz.2.2 | exact F.bq.1.2 | exact F.bq.2.2 | exact F.bn.1.2 | exact F.bn.2.2)))
      | (go_at_call 22; exact Calls.cls hS'.out (div'.out _))
      | (go_at_call 26; exact Calls.cls hS'.out (op_any xn xd bad _ (bdx.out _)))))
    refine wpQuiet_nil ?_
    intro _ hw'
    obtain ⟨⟨v2, st2⟩, rfl⟩ := hw'
    clear s1 s2 s3 s4 s7 st1 y0
    have b0 := st2.bd.c
    go_wp2_with fail
    refine (awake_any _ st2.e).mono ?_; rintro _ v3 ⟨rfl, hb⟩
    replace st2 := st2.keep hb
    clear hb b0
    go_wp2
    go_ret
    exact ⟨rfl, st2.b⟩
end Go.Proofs.YtcngbipgnpjohaaDoor.Field
