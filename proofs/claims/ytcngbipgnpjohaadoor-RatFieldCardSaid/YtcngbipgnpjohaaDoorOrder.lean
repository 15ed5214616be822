/- The contract of some, and the walk of the law RatOrder. -/
import Derived.Test.YtcngbipgnpjohaaDoorNum
import Derived.Test.YtcngbipgnpjohaaDoorFacts
namespace Go.Proofs.YtcngbipgnpjohaaDoor.Order
open Go.RowKit Go.Joins Num

/-- The number that some returns. -/
def someR (n d : Int) : Rat := Rat.divInt (n.tmod 1001) (1 + d % 30)
theorem some_bd (n d : Int) : Bd (someR n d) 1000 30 := by
  have h1 : (n.tmod 1001) < 1001 := Int.tmod_lt_of_pos n (by decide)
  have h2 : -1001 < n.tmod 1001 := Int.lt_tmod_of_pos n (by decide)
  have h3 : 0 ≤ d % 30 := by omega
  have h4 : d % 30 < 30 := by omega
  exact bd_divInt (by omega) (by omega) (by omega)

set_option maxHeartbeats 1000000 in
theorem some_any (n d : Int) (w : World) (n0 : -32768 ≤ n) (n1 : n ≤ 32767) (d0 : 0 ≤ d) (d1 : d ≤ 255) :
    Calls Tryd.prog 25 #[.int .i16 n, .int .u8 d] w fun e w' => e = .returned (.agg #[.int .i64 (someR n d).num, .int .i64 (someR n d).den]) ∧ Below w.heap.size w w' := by
  have hm : mkN (n.tmod 1001) (1 + d % 30) = ((someR n d).num, ((someR n d).den : Int), 0) := by
    rw [mk_ofR _ _ (by omega)]; exact ofR_fits (some_bd n d) (by decide) (by decide)
  have h1 : (n.tmod 1001) < 1001 := Int.tmod_lt_of_pos n (by decide)
  have h2 : -1001 < n.tmod 1001 := Int.lt_tmod_of_pos n (by decide)
  have h3 : 0 ≤ d % 30 := by omega
  have h4 : d % 30 < 30 := by omega
  generalize (someR n d).num = p at hm ⊢
  generalize ((someR n d).den : Int) = q at hm ⊢
  have Hm := Lib.hid hm
  clear hm
  go_enter Tryd.func25, Tryd.ntmps25
  go_wp2_with fail
  refine (make_any _ _ _ (by omega) (by omega) (by omega) (by omega)).mono ?_; rintro e w1 ⟨rfl, hb⟩; rw [Hm.out]
  simp only [ratV]
  obtain ⟨hc, hf⟩ := bcell hb
  have hz := hb.size
  simp only [World.size_alloc] at hc hf hz
  have k0 : w.heap.size < w1.heap.size := by omega
  go_wp2
  refine bodyPost_ret (v := .agg #[.int .i64 p, .int .i64 q]) (by simp [results, Tryd.results25, go_sem, hc, k0]) rfl ⟨rfl, ?_⟩
  have hB : Below w.heap.size w w1 := ((Below.refl _ _).alloc (Nat.le_refl _) _).trans (hb.mono (by simp))
  refine Below.alloc (Below.setCell (Below.setCell hB ?_ _) ?_ _) ?_ _
  · exact Nat.le_refl _
  · exact Nat.le_refl _
  · simp only [World.size_setCell]; exact hB.size

set_option maxHeartbeats 20000000 in
set_option maxRecDepth 100000 in
theorem walk (n m k d e f : Int) (w : World) (he : Env w) (n0 : -32768 ≤ n) (n1 : n ≤ 32767) (m0 : -32768 ≤ m) (m1 : m ≤ 32767) (k0 : -32768 ≤ k) (k1 : k ≤ 32767) (d0 : 0 ≤ d) (d1 : d ≤ 255) (e0 : 0 ≤ e) (e1 : e ≤ 255) (f0 : 0 ≤ f) (f1 : f ≤ 255) :
    Calls Tryd.prog 6 #[.int .i16 n, .int .i16 m, .int .i16 k, .int .u8 d, .int .u8 e, .int .u8 f] w fun e w' => e = .returned (.bool true) ∧ Below w.heap.size w w' := by
  have st := Sts.start he
  clear he
  go_enter Tryd.func6, Tryd.ntmps6
  go_wp2_with fail
  refine (some_any n d _ n0 n1 d0 d1).mono ?_; rintro _ w1 ⟨rfl, hb⟩
  replace st := st.keep hb
  clear hb
  go_wp2_with fail
  refine (some_any m e _ m0 m1 e0 e1).mono ?_; rintro _ w2 ⟨rfl, hb⟩
  replace st := st.keep hb
  clear hb
  go_wp2_with fail
  refine (some_any k f _ k0 k1 f0 f1).mono ?_; rintro _ w3 ⟨rfl, hb⟩
  replace st := st.keep hb
  clear hb
  have br := some_bd n d
  have bs := some_bd m e
  have bt := some_bd k f
  generalize someR n d = r at br ⊢
  generalize someR m e = s at bs ⊢
  generalize someR k f = t at bt ⊢
  obtain ⟨c, c2, c3, pn, pd, an, ad, bn, bd, h1, h2, h3, h4, h5, h6, h7, h8, h9, hcase, q1, q2, q3, q4, q5, q6⟩ := facts br bs bt
  obtain ⟨u1, u2⟩ := br
  obtain ⟨u3, u4⟩ := bs
  obtain ⟨u5, u6⟩ := bt
  have u1' : -1000 ≤ r.num ∧ r.num ≤ 1000 := by omega
  have u3' : -1000 ≤ s.num ∧ s.num ≤ 1000 := by omega
  have u5' : -1000 ≤ t.num ∧ t.num ≤ 1000 := by omega
  have u2' : 0 ≤ (r.den : Int) ∧ (r.den : Int) ≤ 30 := by omega
  have u4' : 0 ≤ (s.den : Int) ∧ (s.den : Int) ≤ 30 := by omega
  have u6' : 0 ≤ (t.den : Int) ∧ (t.den : Int) ≤ 30 := by omega
  have q1' : -60000 ≤ pn ∧ pn ≤ 60000 := by omega
  have q2' : -900 ≤ pd ∧ pd ≤ 900 := by omega
  have q3' : -60000 ≤ an ∧ an ≤ 60000 := by omega
  have q4' : -900 ≤ ad ∧ ad ≤ 900 := by omega
  have q5' : -60000 ≤ bn ∧ bn ≤ 60000 := by omega
  have q6' : -900 ≤ bd ∧ bd ≤ 900 := by omega
  clear q1 q2 q3 q4 q5 q6 u1 u3 u5 u2 u4 u6
  generalize r.num = xn at *
  generalize (r.den : Int) = xd at *
  generalize s.num = yn at *
  generalize (s.den : Int) = yd at *
  generalize t.num = zn at *
  generalize (t.den : Int) = zd at *
  have H1 := Lib.hid h1
  have H2 := Lib.hid h2
  have H3 := Lib.hid h3
  have H4 := Lib.hid h4
  have H5 := Lib.hid h5
  have H6 := Lib.hid h6
  have H7 := Lib.hid h7
  have H8 := Lib.hid h8
  have H9 := Lib.hid h9
  clear h1 h2 h3 h4 h5 h6 h7 h8 h9
  go_wp2_with fail
  refine (cmp_any xn xd yn yd _ (by omega) (by omega) (by omega) (by omega) (by omega) (by omega) (by omega) (by omega)).mono ?_; rintro _ w4 ⟨rfl, hb⟩; rw [H1.out]
  replace st := (((st.new xn xd 23).new yn yd 23).new zn zd 23).keep hb
  simp only [World.size_alloc] at st
  clear hb
  generalize w3.heap.size + 1 + 1 = bz at st ⊢
  generalize w3.heap.size + 1 = bY at st ⊢
  generalize w3.heap.size = bx at st ⊢
  obtain ⟨lx, x0, x1⟩ := st.get bx xn xd (by simp)
  obtain ⟨ly, y0, y1⟩ := st.get bY yn yd (by simp)
  go_wp2_with fail
  refine (cmp_any yn yd xn xd _ (by omega) (by omega) (by omega) (by omega) (by omega) (by omega) (by omega) (by omega)).mono ?_; rintro _ w5 ⟨rfl, hb⟩; rw [H2.out]
  replace st := st.keep hb
  clear hb lx x0 x1 ly y0 y1
  obtain ⟨lx, x0, x1⟩ := st.get bx xn xd (by simp)
  obtain ⟨ly, y0, y1⟩ := st.get bY yn yd (by simp)
  have hx := st.get bx xn xd (by simp)
  have hy := st.get bY yn yd (by simp)
  have hz := st.get bz zn zd (by simp)
  have hall : (xn = yn ∧ xd = yd ∧ c = 0) ∨ (¬ xn = yn ∧ c = 1) ∨ (xn = yn ∧ ¬ xd = yd ∧ c = 1) ∨ (¬ xn = yn ∧ c = -1 ∧ c2 < 0 ∧ c3 < 0) ∨ (xn = yn ∧ ¬ xd = yd ∧ c = -1 ∧ c2 < 0 ∧ c3 < 0) ∨ (¬ xn = yn ∧ c = -1 ∧ 0 ≤ c2) ∨ (xn = yn ∧ ¬ xd = yd ∧ c = -1 ∧ 0 ≤ c2) := by omega
  have e0 := st.e
  have b0 := st.b
  clear hcase lx x0 x1 ly y0 y1 st
  have z0 := hz.c0
  have z1 := hz.c1
  rcases hall with ⟨rfl, rfl, rfl⟩ | ⟨hn, rfl⟩ | ⟨rfl, hn, rfl⟩ | ⟨hn, rfl, h2, h3⟩ | ⟨rfl, hn, rfl, h2, h3⟩ | ⟨hn, rfl, h2⟩ | ⟨rfl, hn, rfl, h2⟩
  · have x0 := hx.c0
    have x1 := hx.c1
    have y0 := hy.c0
    have y1 := hy.c1
    go_wp2_with fail
    try
      (go_at_call 13
       refine (cmp_any _ _ zn zd _ (by omega) (by omega) (by omega) (by omega) (by omega) (by omega) (by omega) (by omega)).mono ?_; rintro _ w6 ⟨rfl, hb⟩; rw [H3.out]
       replace hx := hx.keep hb
       replace hy := hy.keep hb
       replace hz := hz.keep hb
       replace e0 := e0.keep hb
       replace b0 := bnext b0 hb
       clear hb x0 x1 y0 y1 z0 z1
       have x0 := hx.c0
       have x1 := hx.c1
       have y0 := hy.c0
       have y1 := hy.c1
       have z0 := hz.c0
       have z1 := hz.c1
       go_wp2_with fail)
    try
      (go_at_call 13
       refine (cmp_any _ _ zn zd _ (by omega) (by omega) (by omega) (by omega) (by omega) (by omega) (by omega) (by omega)).mono ?_; rintro _ w7 ⟨rfl, hb⟩; rw [H4.out]
       replace hx := hx.keep hb
       replace hy := hy.keep hb
       replace hz := hz.keep hb
       replace e0 := e0.keep hb
       replace b0 := bnext b0 hb
       clear hb x0 x1 y0 y1 z0 z1
       have x0 := hx.c0
       have x1 := hx.c1
       have y0 := hy.c0
       have y1 := hy.c1
       have z0 := hz.c0
       have z1 := hz.c1
       go_wp2_with fail)
    refine (sub_any _ _ _ _ _ (by omega) (by omega) (by omega) (by omega) (by omega) (by omega) (by omega) (by omega)).mono ?_; rintro _ w8 ⟨rfl, hb⟩; rw [H5.out]
    simp only [ratV]
    replace hx := hx.keep hb
    replace hy := hy.keep hb
    replace hz := hz.keep hb
    replace e0 := e0.keep hb
    replace b0 := bnext b0 hb
    clear hb x0 x1 y0 y1 z0 z1
    have x0 := (hx.alloc (.cells #[.int .i64 pn, .int .i64 pd] 23)).c0
    have x1 := (hx.alloc (.cells #[.int .i64 pn, .int .i64 pd] 23)).c1
    have z0 := (hz.alloc (.cells #[.int .i64 pn, .int .i64 pd] 23)).c0
    have z1 := (hz.alloc (.cells #[.int .i64 pn, .int .i64 pd] 23)).c1
    go_wp2_with fail
    refine (add_any _ _ zn zd _ (by omega) (by omega) (by omega) (by omega) (by omega) (by omega) (by omega) (by omega)).mono ?_; rintro _ w9 ⟨rfl, hb⟩; rw [H6.out]
    simp only [ratV]
    have hp := (Has.new w8 pn pd 23).keep hb
    replace hy := (hy.alloc _).keep hb
    replace hz := (hz.alloc _).keep hb
    replace e0 := (e0.alloc _).keep hb
    replace b0 := below_allocs1 b0 b0.size hb
    clear hb x0 x1 z0 z1 hx
    generalize w8.heap.size = bp at hp ⊢
    have y0 := (hy.alloc (.cells #[.int .i64 an, .int .i64 ad] 23)).c0
    have y1 := (hy.alloc (.cells #[.int .i64 an, .int .i64 ad] 23)).c1
    have z0 := (hz.alloc (.cells #[.int .i64 an, .int .i64 ad] 23)).c0
    have z1 := (hz.alloc (.cells #[.int .i64 an, .int .i64 ad] 23)).c1
    go_wp2_with fail
    refine (add_any _ _ zn zd _ (by omega) (by omega) (by omega) (by omega) (by omega) (by omega) (by omega) (by omega)).mono ?_; rintro _ w10 ⟨rfl, hb⟩; rw [H7.out]
    simp only [ratV]
    have ha := (Has.new w9 an ad 23).keep hb
    replace hp := (hp.alloc _).keep hb
    replace e0 := (e0.alloc _).keep hb
    replace b0 := below_allocs1 b0 b0.size hb
    clear hb y0 y1 z0 z1 hy hz
    generalize w9.heap.size = ba at ha ⊢
    have p0 := (hp.alloc (.cells #[.int .i64 bn, .int .i64 bd] 23)).c0
    have p1 := (hp.alloc (.cells #[.int .i64 bn, .int .i64 bd] 23)).c1
    go_wp2_with fail
    refine (cmp_any pn pd 0 1 _ (by omega) (by omega) (by omega) (by omega) (by decide) (by decide) (by decide) (by decide)).mono ?_; rintro _ w11 ⟨rfl, hb⟩; rw [H8.out]
    have hbb := (Has.new w10 bn bd 23).keep hb
    replace ha := (ha.alloc _).keep hb
    replace e0 := (e0.alloc _).keep hb
    replace b0 := below_allocs1 b0 b0.size hb
    clear hb p0 p1 hp
    generalize w10.heap.size = bb at hbb ⊢
    have a0 := ha.c0
    have a1 := ha.c1
    have c0 := hbb.c0
    have c1 := hbb.c1
    go_wp2_with fail
    refine (cmp_any an ad bn bd _ (by omega) (by omega) (by omega) (by omega) (by omega) (by omega) (by omega) (by omega)).mono ?_; rintro _ w12 ⟨rfl, hb⟩; rw [H9.out]
    replace e0 := e0.keep hb
    replace b0 := bnext b0 hb
    clear hb a0 a1 c0 c1
    go_wp2_with fail
    refine (awake_any _ e0).mono ?_; rintro _ w13 ⟨rfl, hb⟩
    replace b0 := bnext b0 hb
    clear hb
    go_wp2
    go_ret
    exact ⟨rfl, b0⟩
  · have x0 := hx.c0
    have x1 := hx.c1
    have y0 := hy.c0
    have y1 := hy.c1
    go_wp2_with fail
    try
      (go_at_call 13
       refine (cmp_any _ _ zn zd _ (by omega) (by omega) (by omega) (by omega) (by omega) (by omega) (by omega) (by omega)).mono ?_; rintro _ w6 ⟨rfl, hb⟩; rw [H3.out]
       replace hx := hx.keep hb
       replace hy := hy.keep hb
       replace hz := hz.keep hb
       replace e0 := e0.keep hb
       replace b0 := bnext b0 hb
       clear hb x0 x1 y0 y1 z0 z1
       have x0 := hx.c0
       have x1 := hx.c1
       have y0 := hy.c0
       have y1 := hy.c1
       have z0 := hz.c0
       have z1 := hz.c1
       go_wp2_with fail)
    try
      (go_at_call 13
       refine (cmp_any _ _ zn zd _ (by omega) (by omega) (by omega) (by omega) (by omega) (by omega) (by omega) (by omega)).mono ?_; rintro _ w7 ⟨rfl, hb⟩; rw [H4.out]
       replace hx := hx.keep hb
       replace hy := hy.keep hb
       replace hz := hz.keep hb
       replace e0 := e0.keep hb
       replace b0 := bnext b0 hb
       clear hb x0 x1 y0 y1 z0 z1
       have x0 := hx.c0
       have x1 := hx.c1
       have y0 := hy.c0
       have y1 := hy.c1
       have z0 := hz.c0
       have z1 := hz.c1
       go_wp2_with fail)
    refine (sub_any _ _ _ _ _ (by omega) (by omega) (by omega) (by omega) (by omega) (by omega) (by omega) (by omega)).mono ?_; rintro _ w8 ⟨rfl, hb⟩; rw [H5.out]
    simp only [ratV]
    replace hx := hx.keep hb
    replace hy := hy.keep hb
    replace hz := hz.keep hb
    replace e0 := e0.keep hb
    replace b0 := bnext b0 hb
    clear hb x0 x1 y0 y1 z0 z1
    have x0 := (hx.alloc (.cells #[.int .i64 pn, .int .i64 pd] 23)).c0
    have x1 := (hx.alloc (.cells #[.int .i64 pn, .int .i64 pd] 23)).c1
    have z0 := (hz.alloc (.cells #[.int .i64 pn, .int .i64 pd] 23)).c0
    have z1 := (hz.alloc (.cells #[.int .i64 pn, .int .i64 pd] 23)).c1
    go_wp2_with fail
    refine (add_any _ _ zn zd _ (by omega) (by omega) (by omega) (by omega) (by omega) (by omega) (by omega) (by omega)).mono ?_; rintro _ w9 ⟨rfl, hb⟩; rw [H6.out]
    simp only [ratV]
    have hp := (Has.new w8 pn pd 23).keep hb
    replace hy := (hy.alloc _).keep hb
    replace hz := (hz.alloc _).keep hb
    replace e0 := (e0.alloc _).keep hb
    replace b0 := below_allocs1 b0 b0.size hb
    clear hb x0 x1 z0 z1 hx
    generalize w8.heap.size = bp at hp ⊢
    have y0 := (hy.alloc (.cells #[.int .i64 an, .int .i64 ad] 23)).c0
    have y1 := (hy.alloc (.cells #[.int .i64 an, .int .i64 ad] 23)).c1
    have z0 := (hz.alloc (.cells #[.int .i64 an, .int .i64 ad] 23)).c0
    have z1 := (hz.alloc (.cells #[.int .i64 an, .int .i64 ad] 23)).c1
    go_wp2_with fail
    refine (add_any _ _ zn zd _ (by omega) (by omega) (by omega) (by omega) (by omega) (by omega) (by omega) (by omega)).mono ?_; rintro _ w10 ⟨rfl, hb⟩; rw [H7.out]
    simp only [ratV]
    have ha := (Has.new w9 an ad 23).keep hb
    replace hp := (hp.alloc _).keep hb
    replace e0 := (e0.alloc _).keep hb
    replace b0 := below_allocs1 b0 b0.size hb
    clear hb y0 y1 z0 z1 hy hz
    generalize w9.heap.size = ba at ha ⊢
    have p0 := (hp.alloc (.cells #[.int .i64 bn, .int .i64 bd] 23)).c0
    have p1 := (hp.alloc (.cells #[.int .i64 bn, .int .i64 bd] 23)).c1
    go_wp2_with fail
    refine (cmp_any pn pd 0 1 _ (by omega) (by omega) (by omega) (by omega) (by decide) (by decide) (by decide) (by decide)).mono ?_; rintro _ w11 ⟨rfl, hb⟩; rw [H8.out]
    have hbb := (Has.new w10 bn bd 23).keep hb
    replace ha := (ha.alloc _).keep hb
    replace e0 := (e0.alloc _).keep hb
    replace b0 := below_allocs1 b0 b0.size hb
    clear hb p0 p1 hp
    generalize w10.heap.size = bb at hbb ⊢
    have a0 := ha.c0
    have a1 := ha.c1
    have c0 := hbb.c0
    have c1 := hbb.c1
    go_wp2_with fail
    refine (cmp_any an ad bn bd _ (by omega) (by omega) (by omega) (by omega) (by omega) (by omega) (by omega) (by omega)).mono ?_; rintro _ w12 ⟨rfl, hb⟩; rw [H9.out]
    replace e0 := e0.keep hb
    replace b0 := bnext b0 hb
    clear hb a0 a1 c0 c1
    go_wp2_with fail
    refine (awake_any _ e0).mono ?_; rintro _ w13 ⟨rfl, hb⟩
    replace b0 := bnext b0 hb
    clear hb
    go_wp2
    go_ret
    exact ⟨rfl, b0⟩
  · have x0 := hx.c0
    have x1 := hx.c1
    have y0 := hy.c0
    have y1 := hy.c1
    go_wp2_with fail
    try
      (go_at_call 13
       refine (cmp_any _ _ zn zd _ (by omega) (by omega) (by omega) (by omega) (by omega) (by omega) (by omega) (by omega)).mono ?_; rintro _ w6 ⟨rfl, hb⟩; rw [H3.out]
       replace hx := hx.keep hb
       replace hy := hy.keep hb
       replace hz := hz.keep hb
       replace e0 := e0.keep hb
       replace b0 := bnext b0 hb
       clear hb x0 x1 y0 y1 z0 z1
       have x0 := hx.c0
       have x1 := hx.c1
       have y0 := hy.c0
       have y1 := hy.c1
       have z0 := hz.c0
       have z1 := hz.c1
       go_wp2_with fail)
    try
      (go_at_call 13
       refine (cmp_any _ _ zn zd _ (by omega) (by omega) (by omega) (by omega) (by omega) (by omega) (by omega) (by omega)).mono ?_; rintro _ w7 ⟨rfl, hb⟩; rw [H4.out]
       replace hx := hx.keep hb
       replace hy := hy.keep hb
       replace hz := hz.keep hb
       replace e0 := e0.keep hb
       replace b0 := bnext b0 hb
       clear hb x0 x1 y0 y1 z0 z1
       have x0 := hx.c0
       have x1 := hx.c1
       have y0 := hy.c0
       have y1 := hy.c1
       have z0 := hz.c0
       have z1 := hz.c1
       go_wp2_with fail)
    refine (sub_any _ _ _ _ _ (by omega) (by omega) (by omega) (by omega) (by omega) (by omega) (by omega) (by omega)).mono ?_; rintro _ w8 ⟨rfl, hb⟩; rw [H5.out]
    simp only [ratV]
    replace hx := hx.keep hb
    replace hy := hy.keep hb
    replace hz := hz.keep hb
    replace e0 := e0.keep hb
    replace b0 := bnext b0 hb
    clear hb x0 x1 y0 y1 z0 z1
    have x0 := (hx.alloc (.cells #[.int .i64 pn, .int .i64 pd] 23)).c0
    have x1 := (hx.alloc (.cells #[.int .i64 pn, .int .i64 pd] 23)).c1
    have z0 := (hz.alloc (.cells #[.int .i64 pn, .int .i64 pd] 23)).c0
    have z1 := (hz.alloc (.cells #[.int .i64 pn, .int .i64 pd] 23)).c1
    go_wp2_with fail
    refine (add_any _ _ zn zd _ (by omega) (by omega) (by omega) (by omega) (by omega) (by omega) (by omega) (by omega)).mono ?_; rintro _ w9 ⟨rfl, hb⟩; rw [H6.out]
    simp only [ratV]
    have hp := (Has.new w8 pn pd 23).keep hb
    replace hy := (hy.alloc _).keep hb
    replace hz := (hz.alloc _).keep hb
    replace e0 := (e0.alloc _).keep hb
    replace b0 := below_allocs1 b0 b0.size hb
    clear hb x0 x1 z0 z1 hx
    generalize w8.heap.size = bp at hp ⊢
    have y0 := (hy.alloc (.cells #[.int .i64 an, .int .i64 ad] 23)).c0
    have y1 := (hy.alloc (.cells #[.int .i64 an, .int .i64 ad] 23)).c1
    have z0 := (hz.alloc (.cells #[.int .i64 an, .int .i64 ad] 23)).c0
    have z1 := (hz.alloc (.cells #[.int .i64 an, .int .i64 ad] 23)).c1
    go_wp2_with fail
    refine (add_any _ _ zn zd _ (by omega) (by omega) (by omega) (by omega) (by omega) (by omega) (by omega) (by omega)).mono ?_; rintro _ w10 ⟨rfl, hb⟩; rw [H7.out]
    simp only [ratV]
    have ha := (Has.new w9 an ad 23).keep hb
    replace hp := (hp.alloc _).keep hb
    replace e0 := (e0.alloc _).keep hb
    replace b0 := below_allocs1 b0 b0.size hb
    clear hb y0 y1 z0 z1 hy hz
    generalize w9.heap.size = ba at ha ⊢
    have p0 := (hp.alloc (.cells #[.int .i64 bn, .int .i64 bd] 23)).c0
    have p1 := (hp.alloc (.cells #[.int .i64 bn, .int .i64 bd] 23)).c1
    go_wp2_with fail
    refine (cmp_any pn pd 0 1 _ (by omega) (by omega) (by omega) (by omega) (by decide) (by decide) (by decide) (by decide)).mono ?_; rintro _ w11 ⟨rfl, hb⟩; rw [H8.out]
    have hbb := (Has.new w10 bn bd 23).keep hb
    replace ha := (ha.alloc _).keep hb
    replace e0 := (e0.alloc _).keep hb
    replace b0 := below_allocs1 b0 b0.size hb
    clear hb p0 p1 hp
    generalize w10.heap.size = bb at hbb ⊢
    have a0 := ha.c0
    have a1 := ha.c1
    have c0 := hbb.c0
    have c1 := hbb.c1
    go_wp2_with fail
    refine (cmp_any an ad bn bd _ (by omega) (by omega) (by omega) (by omega) (by omega) (by omega) (by omega) (by omega)).mono ?_; rintro _ w12 ⟨rfl, hb⟩; rw [H9.out]
    replace e0 := e0.keep hb
    replace b0 := bnext b0 hb
    clear hb a0 a1 c0 c1
    go_wp2_with fail
    refine (awake_any _ e0).mono ?_; rintro _ w13 ⟨rfl, hb⟩
    replace b0 := bnext b0 hb
    clear hb
    go_wp2
    go_ret
    exact ⟨rfl, b0⟩
  · have x0 := hx.c0
    have x1 := hx.c1
    have y0 := hy.c0
    have y1 := hy.c1
    go_wp2_with fail
    try
      (go_at_call 13
       refine (cmp_any _ _ zn zd _ (by omega) (by omega) (by omega) (by omega) (by omega) (by omega) (by omega) (by omega)).mono ?_; rintro _ w6 ⟨rfl, hb⟩; rw [H3.out]
       replace hx := hx.keep hb
       replace hy := hy.keep hb
       replace hz := hz.keep hb
       replace e0 := e0.keep hb
       replace b0 := bnext b0 hb
       clear hb x0 x1 y0 y1 z0 z1
       have x0 := hx.c0
       have x1 := hx.c1
       have y0 := hy.c0
       have y1 := hy.c1
       have z0 := hz.c0
       have z1 := hz.c1
       go_wp2_with fail)
    try
      (go_at_call 13
       refine (cmp_any _ _ zn zd _ (by omega) (by omega) (by omega) (by omega) (by omega) (by omega) (by omega) (by omega)).mono ?_; rintro _ w7 ⟨rfl, hb⟩; rw [H4.out]
       replace hx := hx.keep hb
       replace hy := hy.keep hb
       replace hz := hz.keep hb
       replace e0 := e0.keep hb
       replace b0 := bnext b0 hb
       clear hb x0 x1 y0 y1 z0 z1
       have x0 := hx.c0
       have x1 := hx.c1
       have y0 := hy.c0
       have y1 := hy.c1
       have z0 := hz.c0
       have z1 := hz.c1
       go_wp2_with fail)
    refine (sub_any _ _ _ _ _ (by omega) (by omega) (by omega) (by omega) (by omega) (by omega) (by omega) (by omega)).mono ?_; rintro _ w8 ⟨rfl, hb⟩; rw [H5.out]
    simp only [ratV]
    replace hx := hx.keep hb
    replace hy := hy.keep hb
    replace hz := hz.keep hb
    replace e0 := e0.keep hb
    replace b0 := bnext b0 hb
    clear hb x0 x1 y0 y1 z0 z1
    have x0 := (hx.alloc (.cells #[.int .i64 pn, .int .i64 pd] 23)).c0
    have x1 := (hx.alloc (.cells #[.int .i64 pn, .int .i64 pd] 23)).c1
    have z0 := (hz.alloc (.cells #[.int .i64 pn, .int .i64 pd] 23)).c0
    have z1 := (hz.alloc (.cells #[.int .i64 pn, .int .i64 pd] 23)).c1
    go_wp2_with fail
    refine (add_any _ _ zn zd _ (by omega) (by omega) (by omega) (by omega) (by omega) (by omega) (by omega) (by omega)).mono ?_; rintro _ w9 ⟨rfl, hb⟩; rw [H6.out]
    simp only [ratV]
    have hp := (Has.new w8 pn pd 23).keep hb
    replace hy := (hy.alloc _).keep hb
    replace hz := (hz.alloc _).keep hb
    replace e0 := (e0.alloc _).keep hb
    replace b0 := below_allocs1 b0 b0.size hb
    clear hb x0 x1 z0 z1 hx
    generalize w8.heap.size = bp at hp ⊢
    have y0 := (hy.alloc (.cells #[.int .i64 an, .int .i64 ad] 23)).c0
    have y1 := (hy.alloc (.cells #[.int .i64 an, .int .i64 ad] 23)).c1
    have z0 := (hz.alloc (.cells #[.int .i64 an, .int .i64 ad] 23)).c0
    have z1 := (hz.alloc (.cells #[.int .i64 an, .int .i64 ad] 23)).c1
    go_wp2_with fail
    refine (add_any _ _ zn zd _ (by omega) (by omega) (by omega) (by omega) (by omega) (by omega) (by omega) (by omega)).mono ?_; rintro _ w10 ⟨rfl, hb⟩; rw [H7.out]
    simp only [ratV]
    have ha := (Has.new w9 an ad 23).keep hb
    replace hp := (hp.alloc _).keep hb
    replace e0 := (e0.alloc _).keep hb
    replace b0 := below_allocs1 b0 b0.size hb
    clear hb y0 y1 z0 z1 hy hz
    generalize w9.heap.size = ba at ha ⊢
    have p0 := (hp.alloc (.cells #[.int .i64 bn, .int .i64 bd] 23)).c0
    have p1 := (hp.alloc (.cells #[.int .i64 bn, .int .i64 bd] 23)).c1
    go_wp2_with fail
    refine (cmp_any pn pd 0 1 _ (by omega) (by omega) (by omega) (by omega) (by decide) (by decide) (by decide) (by decide)).mono ?_; rintro _ w11 ⟨rfl, hb⟩; rw [H8.out]
    have hbb := (Has.new w10 bn bd 23).keep hb
    replace ha := (ha.alloc _).keep hb
    replace e0 := (e0.alloc _).keep hb
    replace b0 := below_allocs1 b0 b0.size hb
    clear hb p0 p1 hp
    generalize w10.heap.size = bb at hbb ⊢
    have a0 := ha.c0
    have a1 := ha.c1
    have c0 := hbb.c0
    have c1 := hbb.c1
    go_wp2_with fail
    refine (cmp_any an ad bn bd _ (by omega) (by omega) (by omega) (by omega) (by omega) (by omega) (by omega) (by omega)).mono ?_; rintro _ w12 ⟨rfl, hb⟩; rw [H9.out]
    replace e0 := e0.keep hb
    replace b0 := bnext b0 hb
    clear hb a0 a1 c0 c1
    go_wp2_with fail
    refine (awake_any _ e0).mono ?_; rintro _ w13 ⟨rfl, hb⟩
    replace b0 := bnext b0 hb
    clear hb
    go_wp2
    go_ret
    exact ⟨rfl, b0⟩
  · have x0 := hx.c0
    have x1 := hx.c1
    have y0 := hy.c0
    have y1 := hy.c1
    go_wp2_with fail
    try
      (go_at_call 13
       refine (cmp_any _ _ zn zd _ (by omega) (by omega) (by omega) (by omega) (by omega) (by omega) (by omega) (by omega)).mono ?_; rintro _ w6 ⟨rfl, hb⟩; rw [H3.out]
       replace hx := hx.keep hb
       replace hy := hy.keep hb
       replace hz := hz.keep hb
       replace e0 := e0.keep hb
       replace b0 := bnext b0 hb
       clear hb x0 x1 y0 y1 z0 z1
       have x0 := hx.c0
       have x1 := hx.c1
       have y0 := hy.c0
       have y1 := hy.c1
       have z0 := hz.c0
       have z1 := hz.c1
       go_wp2_with fail)
    try
      (go_at_call 13
       refine (cmp_any _ _ zn zd _ (by omega) (by omega) (by omega) (by omega) (by omega) (by omega) (by omega) (by omega)).mono ?_; rintro _ w7 ⟨rfl, hb⟩; rw [H4.out]
       replace hx := hx.keep hb
       replace hy := hy.keep hb
       replace hz := hz.keep hb
       replace e0 := e0.keep hb
       replace b0 := bnext b0 hb
       clear hb x0 x1 y0 y1 z0 z1
       have x0 := hx.c0
       have x1 := hx.c1
       have y0 := hy.c0
       have y1 := hy.c1
       have z0 := hz.c0
       have z1 := hz.c1
       go_wp2_with fail)
    refine (sub_any _ _ _ _ _ (by omega) (by omega) (by omega) (by omega) (by omega) (by omega) (by omega) (by omega)).mono ?_; rintro _ w8 ⟨rfl, hb⟩; rw [H5.out]
    simp only [ratV]
    replace hx := hx.keep hb
    replace hy := hy.keep hb
    replace hz := hz.keep hb
    replace e0 := e0.keep hb
    replace b0 := bnext b0 hb
    clear hb x0 x1 y0 y1 z0 z1
    have x0 := (hx.alloc (.cells #[.int .i64 pn, .int .i64 pd] 23)).c0
    have x1 := (hx.alloc (.cells #[.int .i64 pn, .int .i64 pd] 23)).c1
    have z0 := (hz.alloc (.cells #[.int .i64 pn, .int .i64 pd] 23)).c0
    have z1 := (hz.alloc (.cells #[.int .i64 pn, .int .i64 pd] 23)).c1
    go_wp2_with fail
    refine (add_any _ _ zn zd _ (by omega) (by omega) (by omega) (by omega) (by omega) (by omega) (by omega) (by omega)).mono ?_; rintro _ w9 ⟨rfl, hb⟩; rw [H6.out]
    simp only [ratV]
    have hp := (Has.new w8 pn pd 23).keep hb
    replace hy := (hy.alloc _).keep hb
    replace hz := (hz.alloc _).keep hb
    replace e0 := (e0.alloc _).keep hb
    replace b0 := below_allocs1 b0 b0.size hb
    clear hb x0 x1 z0 z1 hx
    generalize w8.heap.size = bp at hp ⊢
    have y0 := (hy.alloc (.cells #[.int .i64 an, .int .i64 ad] 23)).c0
    have y1 := (hy.alloc (.cells #[.int .i64 an, .int .i64 ad] 23)).c1
    have z0 := (hz.alloc (.cells #[.int .i64 an, .int .i64 ad] 23)).c0
    have z1 := (hz.alloc (.cells #[.int .i64 an, .int .i64 ad] 23)).c1
    go_wp2_with fail
    refine (add_any _ _ zn zd _ (by omega) (by omega) (by omega) (by omega) (by omega) (by omega) (by omega) (by omega)).mono ?_; rintro _ w10 ⟨rfl, hb⟩; rw [H7.out]
    simp only [ratV]
    have ha := (Has.new w9 an ad 23).keep hb
    replace hp := (hp.alloc _).keep hb
    replace e0 := (e0.alloc _).keep hb
    replace b0 := below_allocs1 b0 b0.size hb
    clear hb y0 y1 z0 z1 hy hz
    generalize w9.heap.size = ba at ha ⊢
    have p0 := (hp.alloc (.cells #[.int .i64 bn, .int .i64 bd] 23)).c0
    have p1 := (hp.alloc (.cells #[.int .i64 bn, .int .i64 bd] 23)).c1
    go_wp2_with fail
    refine (cmp_any pn pd 0 1 _ (by omega) (by omega) (by omega) (by omega) (by decide) (by decide) (by decide) (by decide)).mono ?_; rintro _ w11 ⟨rfl, hb⟩; rw [H8.out]
    have hbb := (Has.new w10 bn bd 23).keep hb
    replace ha := (ha.alloc _).keep hb
    replace e0 := (e0.alloc _).keep hb
    replace b0 := below_allocs1 b0 b0.size hb
    clear hb p0 p1 hp
    generalize w10.heap.size = bb at hbb ⊢
    have a0 := ha.c0
    have a1 := ha.c1
    have c0 := hbb.c0
    have c1 := hbb.c1
    go_wp2_with fail
    refine (cmp_any an ad bn bd _ (by omega) (by omega) (by omega) (by omega) (by omega) (by omega) (by omega) (by omega)).mono ?_; rintro _ w12 ⟨rfl, hb⟩; rw [H9.out]
    replace e0 := e0.keep hb
    replace b0 := bnext b0 hb
    clear hb a0 a1 c0 c1
    go_wp2_with fail
    refine (awake_any _ e0).mono ?_; rintro _ w13 ⟨rfl, hb⟩
    replace b0 := bnext b0 hb
    clear hb
    go_wp2
    go_ret
    exact ⟨rfl, b0⟩
  · have x0 := hx.c0
    have x1 := hx.c1
    have y0 := hy.c0
    have y1 := hy.c1
    go_wp2_with fail
    try
      (go_at_call 13
       refine (cmp_any _ _ zn zd _ (by omega) (by omega) (by omega) (by omega) (by omega) (by omega) (by omega) (by omega)).mono ?_; rintro _ w6 ⟨rfl, hb⟩; rw [H3.out]
       replace hx := hx.keep hb
       replace hy := hy.keep hb
       replace hz := hz.keep hb
       replace e0 := e0.keep hb
       replace b0 := bnext b0 hb
       clear hb x0 x1 y0 y1 z0 z1
       have x0 := hx.c0
       have x1 := hx.c1
       have y0 := hy.c0
       have y1 := hy.c1
       have z0 := hz.c0
       have z1 := hz.c1
       go_wp2_with fail)
    try
      (go_at_call 13
       refine (cmp_any _ _ zn zd _ (by omega) (by omega) (by omega) (by omega) (by omega) (by omega) (by omega) (by omega)).mono ?_; rintro _ w7 ⟨rfl, hb⟩; rw [H4.out]
       replace hx := hx.keep hb
       replace hy := hy.keep hb
       replace hz := hz.keep hb
       replace e0 := e0.keep hb
       replace b0 := bnext b0 hb
       clear hb x0 x1 y0 y1 z0 z1
       have x0 := hx.c0
       have x1 := hx.c1
       have y0 := hy.c0
       have y1 := hy.c1
       have z0 := hz.c0
       have z1 := hz.c1
       go_wp2_with fail)
    refine (sub_any _ _ _ _ _ (by omega) (by omega) (by omega) (by omega) (by omega) (by omega) (by omega) (by omega)).mono ?_; rintro _ w8 ⟨rfl, hb⟩; rw [H5.out]
    simp only [ratV]
    replace hx := hx.keep hb
    replace hy := hy.keep hb
    replace hz := hz.keep hb
    replace e0 := e0.keep hb
    replace b0 := bnext b0 hb
    clear hb x0 x1 y0 y1 z0 z1
    have x0 := (hx.alloc (.cells #[.int .i64 pn, .int .i64 pd] 23)).c0
    have x1 := (hx.alloc (.cells #[.int .i64 pn, .int .i64 pd] 23)).c1
    have z0 := (hz.alloc (.cells #[.int .i64 pn, .int .i64 pd] 23)).c0
    have z1 := (hz.alloc (.cells #[.int .i64 pn, .int .i64 pd] 23)).c1
    go_wp2_with fail
    refine (add_any _ _ zn zd _ (by omega) (by omega) (by omega) (by omega) (by omega) (by omega) (by omega) (by omega)).mono ?_; rintro _ w9 ⟨rfl, hb⟩; rw [H6.out]
    simp only [ratV]
    have hp := (Has.new w8 pn pd 23).keep hb
    replace hy := (hy.alloc _).keep hb
    replace hz := (hz.alloc _).keep hb
    replace e0 := (e0.alloc _).keep hb
    replace b0 := below_allocs1 b0 b0.size hb
    clear hb x0 x1 z0 z1 hx
    generalize w8.heap.size = bp at hp ⊢
    have y0 := (hy.alloc (.cells #[.int .i64 an, .int .i64 ad] 23)).c0
    have y1 := (hy.alloc (.cells #[.int .i64 an, .int .i64 ad] 23)).c1
    have z0 := (hz.alloc (.cells #[.int .i64 an, .int .i64 ad] 23)).c0
    have z1 := (hz.alloc (.cells #[.int .i64 an, .int .i64 ad] 23)).c1
    go_wp2_with fail
    refine (add_any _ _ zn zd _ (by omega) (by omega) (by omega) (by omega) (by omega) (by omega) (by omega) (by omega)).mono ?_; rintro _ w10 ⟨rfl, hb⟩; rw [H7.out]
    simp only [ratV]
    have ha := (Has.new w9 an ad 23).keep hb
    replace hp := (hp.alloc _).keep hb
    replace e0 := (e0.alloc _).keep hb
    replace b0 := below_allocs1 b0 b0.size hb
    clear hb y0 y1 z0 z1 hy hz
    generalize w9.heap.size = ba at ha ⊢
    have p0 := (hp.alloc (.cells #[.int .i64 bn, .int .i64 bd] 23)).c0
    have p1 := (hp.alloc (.cells #[.int .i64 bn, .int .i64 bd] 23)).c1
    go_wp2_with fail
    refine (cmp_any pn pd 0 1 _ (by omega) (by omega) (by omega) (by omega) (by decide) (by decide) (by decide) (by decide)).mono ?_; rintro _ w11 ⟨rfl, hb⟩; rw [H8.out]
    have hbb := (Has.new w10 bn bd 23).keep hb
    replace ha := (ha.alloc _).keep hb
    replace e0 := (e0.alloc _).keep hb
    replace b0 := below_allocs1 b0 b0.size hb
    clear hb p0 p1 hp
    generalize w10.heap.size = bb at hbb ⊢
    have a0 := ha.c0
    have a1 := ha.c1
    have c0 := hbb.c0
    have c1 := hbb.c1
    go_wp2_with fail
    refine (cmp_any an ad bn bd _ (by omega) (by omega) (by omega) (by omega) (by omega) (by omega) (by omega) (by omega)).mono ?_; rintro _ w12 ⟨rfl, hb⟩; rw [H9.out]
    replace e0 := e0.keep hb
    replace b0 := bnext b0 hb
    clear hb a0 a1 c0 c1
    go_wp2_with fail
    refine (awake_any _ e0).mono ?_; rintro _ w13 ⟨rfl, hb⟩
    replace b0 := bnext b0 hb
    clear hb
    go_wp2
    go_ret
    exact ⟨rfl, b0⟩
  · have x0 := hx.c0
    have x1 := hx.c1
    have y0 := hy.c0
    have y1 := hy.c1
    go_wp2_with fail
    try
      (go_at_call 13
       refine (cmp_any _ _ zn zd _ (by omega) (by omega) (by omega) (by omega) (by omega) (by omega) (by omega) (by omega)).mono ?_; rintro _ w6 ⟨rfl, hb⟩; rw [H3.out]
       replace hx := hx.keep hb
       replace hy := hy.keep hb
       replace hz := hz.keep hb
       replace e0 := e0.keep hb
       replace b0 := bnext b0 hb
       clear hb x0 x1 y0 y1 z0 z1
       have x0 := hx.c0
       have x1 := hx.c1
       have y0 := hy.c0
       have y1 := hy.c1
       have z0 := hz.c0
       have z1 := hz.c1
       go_wp2_with fail)
    try
      (go_at_call 13
       refine (cmp_any _ _ zn zd _ (by omega) (by omega) (by omega) (by omega) (by omega) (by omega) (by omega) (by omega)).mono ?_; rintro _ w7 ⟨rfl, hb⟩; rw [H4.out]
       replace hx := hx.keep hb
       replace hy := hy.keep hb
       replace hz := hz.keep hb
       replace e0 := e0.keep hb
       replace b0 := bnext b0 hb
       clear hb x0 x1 y0 y1 z0 z1
       have x0 := hx.c0
       have x1 := hx.c1
       have y0 := hy.c0
       have y1 := hy.c1
       have z0 := hz.c0
       have z1 := hz.c1
       go_wp2_with fail)
    refine (sub_any _ _ _ _ _ (by omega) (by omega) (by omega) (by omega) (by omega) (by omega) (by omega) (by omega)).mono ?_; rintro _ w8 ⟨rfl, hb⟩; rw [H5.out]
    simp only [ratV]
    replace hx := hx.keep hb
    replace hy := hy.keep hb
    replace hz := hz.keep hb
    replace e0 := e0.keep hb
    replace b0 := bnext b0 hb
    clear hb x0 x1 y0 y1 z0 z1
    have x0 := (hx.alloc (.cells #[.int .i64 pn, .int .i64 pd] 23)).c0
    have x1 := (hx.alloc (.cells #[.int .i64 pn, .int .i64 pd] 23)).c1
    have z0 := (hz.alloc (.cells #[.int .i64 pn, .int .i64 pd] 23)).c0
    have z1 := (hz.alloc (.cells #[.int .i64 pn, .int .i64 pd] 23)).c1
    go_wp2_with fail
    refine (add_any _ _ zn zd _ (by omega) (by omega) (by omega) (by omega) (by omega) (by omega) (by omega) (by omega)).mono ?_; rintro _ w9 ⟨rfl, hb⟩; rw [H6.out]
    simp only [ratV]
    have hp := (Has.new w8 pn pd 23).keep hb
    replace hy := (hy.alloc _).keep hb
    replace hz := (hz.alloc _).keep hb
    replace e0 := (e0.alloc _).keep hb
    replace b0 := below_allocs1 b0 b0.size hb
    clear hb x0 x1 z0 z1 hx
    generalize w8.heap.size = bp at hp ⊢
    have y0 := (hy.alloc (.cells #[.int .i64 an, .int .i64 ad] 23)).c0
    have y1 := (hy.alloc (.cells #[.int .i64 an, .int .i64 ad] 23)).c1
    have z0 := (hz.alloc (.cells #[.int .i64 an, .int .i64 ad] 23)).c0
    have z1 := (hz.alloc (.cells #[.int .i64 an, .int .i64 ad] 23)).c1
    go_wp2_with fail
    refine (add_any _ _ zn zd _ (by omega) (by omega) (by omega) (by omega) (by omega) (by omega) (by omega) (by omega)).mono ?_; rintro _ w10 ⟨rfl, hb⟩; rw [H7.out]
    simp only [ratV]
    have ha := (Has.new w9 an ad 23).keep hb
    replace hp := (hp.alloc _).keep hb
    replace e0 := (e0.alloc _).keep hb
    replace b0 := below_allocs1 b0 b0.size hb
    clear hb y0 y1 z0 z1 hy hz
    generalize w9.heap.size = ba at ha ⊢
    have p0 := (hp.alloc (.cells #[.int .i64 bn, .int .i64 bd] 23)).c0
    have p1 := (hp.alloc (.cells #[.int .i64 bn, .int .i64 bd] 23)).c1
    go_wp2_with fail
    refine (cmp_any pn pd 0 1 _ (by omega) (by omega) (by omega) (by omega) (by decide) (by decide) (by decide) (by decide)).mono ?_; rintro _ w11 ⟨rfl, hb⟩; rw [H8.out]
    have hbb := (Has.new w10 bn bd 23).keep hb
    replace ha := (ha.alloc _).keep hb
    replace e0 := (e0.alloc _).keep hb
    replace b0 := below_allocs1 b0 b0.size hb
    clear hb p0 p1 hp
    generalize w10.heap.size = bb at hbb ⊢
    have a0 := ha.c0
    have a1 := ha.c1
    have c0 := hbb.c0
    have c1 := hbb.c1
    go_wp2_with fail
    refine (cmp_any an ad bn bd _ (by omega) (by omega) (by omega) (by omega) (by omega) (by omega) (by omega) (by omega)).mono ?_; rintro _ w12 ⟨rfl, hb⟩; rw [H9.out]
    replace e0 := e0.keep hb
    replace b0 := bnext b0 hb
    clear hb a0 a1 c0 c1
    go_wp2_with fail
    refine (awake_any _ e0).mono ?_; rintro _ w13 ⟨rfl, hb⟩
    replace b0 := bnext b0 hb
    clear hb
    go_wp2
    go_ret
    exact ⟨rfl, b0⟩
end Go.Proofs.YtcngbipgnpjohaaDoor.Order
