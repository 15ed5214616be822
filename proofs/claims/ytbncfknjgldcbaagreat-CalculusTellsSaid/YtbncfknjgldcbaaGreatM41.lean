/- Merged texts: TLaw. -/
import Derived.Test.YtbncfknjgldcbaaGreatM37
import Derived.Test.YtbncfknjgldcbaaGreatM39
import Derived.Test.YtbncfknjgldcbaaGreatM40
/- CalculusTells returns true. -/
namespace Go.Proofs.YtbncfknjgldcbaaGreat.TlLaw
open Go.RowKit Go.Joins Go.Shelf Go.Sort Num

set_option maxRecDepth 100000 in
set_option maxHeartbeats 8000000 in
theorem walk (A : Option Addr) (cap : Nat) (cs : List (List Bk)) (an ad bn bd cn cd dn dd : Int) (h1 : I64 an) (h2 : I64 ad) (h3 : I64 bn) (h4 : I64 bd) (h5 : I64 cn) (h6 : I64 cd) (h7 : I64 dn) (h8 : I64 dd) (w : World) (hI : isLW A cs w) :
    Calls Tryz.prog 4 #[.slice A cs.length cap, .agg #[.int .i64 an, .int .i64 ad, .int .i64 bn, .int .i64 bd], .agg #[.int .i64 cn, .int .i64 cd, .int .i64 dn, .int .i64 dd]] w fun e w' => e = .returned (.bool true) ∧ Below w.heap.size w w' := by
  have HW : Hid (∀ W : World, _) := fun W => Aw3.walk W
  have hB0 := Lib.hid (((Below.refl w.heap.size w).alloc (Nat.le_refl _) (.cells #[.int .i64 an, .int .i64 ad, .int .i64 bn, .int .i64 bd] 52)).alloc (by simp) (.cells #[.int .i64 cn, .int .i64 cd, .int .i64 dn, .int .i64 dd] 52))
  by_cases hl : 40 < cs.length
  · have z : decide ((40 : Int) < cs.length) = true := decide_eq_true (by omega)
    clear h1 h2 h3 h4 h5 h6 h7 h8 hI
    go_enter Tryz.func4, Tryz.ntmps4
    go_wp2_with fail
    (with_reducible refine (HW.out _).mono ?_); rintro _ V ⟨rfl, hb⟩
    have hB := Lib.hid (hB0.out.trans (hb.mono hB0.out.size))
    clear hb
    go_wp2
    go_ret
    exact ⟨rfl, hB.out⟩
  have z : decide ((40 : Int) < cs.length) = false := decide_eq_false (by omega)
  have HP : Hid ((∀ c ∈ cs, c.length ≤ 40) → (∃ a b e : Int, (∀ W : World, Below w.heap.size w W → Calls Tryz.prog 26 #[.slice A cs.length cap, .agg #[.int .i64 an, .int .i64 ad, .int .i64 bn, .int .i64 bd]] W fun r w' => r = .returned (.tuple #[.agg #[.int .i64 a, .int .i64 b], .int .i64 e]) ∧ Below W.heap.size W w') ∧ (∀ W : World, Below w.heap.size w W → Calls Tryz.prog 27 #[.slice A cs.length cap, .agg #[.int .i64 an, .int .i64 ad, .int .i64 bn, .int .i64 bd]] W fun r w' => r = .returned (.tuple #[.agg #[.int .i64 a, .int .i64 b], .int .i64 e]) ∧ Below W.heap.size W w')) ∧ (∃ a b e : Int, (∀ W : World, Below w.heap.size w W → Calls Tryz.prog 28 #[.slice A cs.length cap, .agg #[.int .i64 an, .int .i64 ad, .int .i64 bn, .int .i64 bd]] W fun r w' => r = .returned (.tuple #[.agg #[.int .i64 a, .int .i64 b], .int .i64 e]) ∧ Below W.heap.size W w') ∧ (∀ W : World, Below w.heap.size w W → Calls Tryz.prog 29 #[.slice A cs.length cap, .agg #[.int .i64 an, .int .i64 ad, .int .i64 bn, .int .i64 bd]] W fun r w' => r = .returned (.tuple #[.agg #[.int .i64 a, .int .i64 b], .int .i64 e]) ∧ Below W.heap.size W w'))) := fun h =>
    ⟨delay_pair A cap cs an ad bn bd h1 h2 h3 h4 w (hI.row h), back_pair A cap cs an ad bn bd h1 h2 h3 h4 w (hI.row h)⟩
  obtain ⟨q1, q2, q3, q4, q5, HC1, HC2⟩ := chain_pair an ad bn bd cn cd dn dd h1 h2 h3 h4 h5 h6 h7 h8
  have HV1 : Hid (∀ W : World, _) := fun W => server_any an ad bn bd h1 h2 h3 h4 W
  have HV2 : Hid (∀ W : World, _) := fun W => rserver_any an ad bn bd h1 h2 h3 h4 W
  generalize srvB an ad bn bd = sb at HV1 HV2
  replace HC1 := Lib.hid HC1
  replace HC2 := Lib.hid HC2
  obtain ⟨-, vs, hvl, hv, hvc⟩ := hI
  have HL : Hid (∀ (j : Nat) (v : Value) (c : List Bk), vs[j]? = some v → cs[j]? = some c → ∃ (B : Option Addr) (lc cb : Nat), v = .slice B lc cb ∧ lc = c.length) := fun j v c k1 k2 => by
    obtain ⟨B, cb, e, -⟩ := hvc j v c k1 k2
    exact ⟨B, _, cb, e, rfl⟩
  have hv' := Lib.hid hv
  have bS0 := (BoxN.new w 52 #[.int .i64 an, .int .i64 ad, .int .i64 bn, .int .i64 bd]).alloc (.cells #[.int .i64 cn, .int .i64 cd, .int .i64 dn, .int .i64 dd] 52)
  have bT0 := BoxN.new (w.alloc (.cells #[.int .i64 an, .int .i64 ad, .int .i64 bn, .int .i64 bd] 52)) 52 #[.int .i64 cn, .int .i64 cd, .int .i64 dn, .int .i64 dd]
  rw [World.size_alloc] at bT0
  have bS0 := Lib.hid bS0
  have bT0 := Lib.hid bT0
  clear h1 h2 h3 h4 h5 h6 h7 h8 hv hvc
  go_enter Tryz.func4, Tryz.ntmps4
  go_wp2_with fail
  obtain ⟨W0, hW0⟩ : ∃ X, (w.alloc (.cells #[.int .i64 an, .int .i64 ad, .int .i64 bn, .int .i64 bd] 52)).alloc (.cells #[.int .i64 cn, .int .i64 cd, .int .i64 dn, .int .i64 dd] 52) = X := ⟨_, rfl⟩
  rw [hW0] at hB0 bS0 bT0 ⊢
  clear hW0
  go_loopw [27] (fun i wr => ∃ k : Nat, k ≤ cs.length ∧ i = .int .i64 ↑k ∧ Hid (∀ c ∈ cs.take k, c.length ≤ 40) ∧ W0 = wr) (fun i _ => cs.length - (intOf i).toNat)
  case atStart => exact ⟨0, Nat.zero_le _, rfl, by intro c hc; simp at hc, rfl⟩
  case round =>
    obtain ⟨k, hk, rfl, hall, rfl⟩ := hrel
    by_cases hlt : k < cs.length
    · have hd : decide ((k : Int) < cs.length) = true := decide_eq_true (by omega)
      have hv0 : vs[k]? = some (vs[k]'(by omega)) := List.getElem?_eq_getElem (by omega)
      obtain ⟨v, hve⟩ : ∃ v, vs[k]'(by omega) = v := ⟨_, rfl⟩
      rw [hve] at hv0
      have hc : cs[k]? = some (cs[k]'hlt) := List.getElem?_eq_getElem hlt
      obtain ⟨cv, hcv⟩ : ∃ c, cs[k]'hlt = c := ⟨_, rfl⟩
      rw [hcv] at hc
      obtain ⟨Bc, lc, cc, rfl, hlc⟩ := HL.out k v _ hv0 hc
      obtain ⟨b, off, rfl, hb, hr⟩ := (cl_isV A vs w _ hv'.out hB0.out) (by intro e; rw [e] at hv0; simp at hv0)
      have c0 := hr k _ hv0
      have hnx : Hid (lc ≤ 40 → ∀ c ∈ cs.take (k + 1), c.length ≤ 40) := fun h c hc' => by
        rw [take_succ' hc] at hc'
        rcases List.mem_append.1 hc' with h1 | h1
        · exact hall.out c h1
        · rw [List.mem_singleton.1 h1, ← hlc]; exact h
      clear hv0 hve hc hcv hr hlc
      by_cases h40 : 40 < lc
      · have z4 : decide ((40 : Int) < lc) = true := decide_eq_true (by omega)
        go_wp2_with fail
        (with_reducible refine (HW.out _).mono ?_); rintro _ V ⟨rfl, hb⟩
        have hB := Lib.hid (hB0.out.trans (hb.mono hB0.out.size))
        clear hb
        go_wp2
        go_ret
        exact ⟨rfl, hB.out⟩
      · have z4 : decide ((40 : Int) < lc) = false := decide_eq_false (by omega)
        have hn2 := Lib.hid (hnx.out (by omega))
        go_wp2_with fail
        go_roundw
        case rel => exact ⟨k + 1, by omega, by go_num, hn2.out, by first | trivial | rfl⟩
        case measure => simp [intOf]; omega
    · obtain rfl : k = cs.length := by omega
      have hall' := hall.out
      rw [List.take_length] at hall'
      obtain ⟨⟨x1, x2, x3, HD1, HD2⟩, ⟨y1, y2, y3, HB1, HB2⟩⟩ := HP.out hall'
      replace HD1 := Lib.hid HD1
      replace HD2 := Lib.hid HD2
      replace HB1 := Lib.hid HB1
      replace HB2 := Lib.hid HB2
      have K : Kept w [] W0 := ⟨hB0.out, fun _ h => by cases h⟩
      replace K := (K.add (cl_box (w.heap.size + 1) 52 #[.int .i64 cn, .int .i64 cd, .int .i64 dn, .int .i64 dd]) bT0.out).add (cl_box w.heap.size 52 #[.int .i64 an, .int .i64 ad, .int .i64 bn, .int .i64 bd]) bS0.out
      clear hall' hall HP HL hv' hB0 bS0 bT0 hlt
      have s0 := (K.get 0 rfl).cell 0
      have s1 := (K.get 0 rfl).cell 1
      have s2 := (K.get 0 rfl).cell 2
      have s3 := (K.get 0 rfl).cell 3
      have ks := (K.get 0 rfl).lt
      go_wp2_with fail
      (with_reducible refine (HD1.out _ K.b).mono ?_); rintro _ U1 ⟨rfl, hb⟩
      replace K := ((K.keep hb).alloc (.cells #[.int .i64 x1, .int .i64 x2] 25)).add (cl_box _ _ _) (BoxN.new _ 25 #[.int .i64 x1, .int .i64 x2])
      clear hb
      clear s0 s1 s2 s3 ks
      have s0 := (K.get 1 rfl).cell 0
      have s1 := (K.get 1 rfl).cell 1
      have s2 := (K.get 1 rfl).cell 2
      have s3 := (K.get 1 rfl).cell 3
      have ks := (K.get 1 rfl).lt
      go_wp2_with fail
      (with_reducible refine (HD2.out _ K.b).mono ?_); rintro _ U2 ⟨rfl, hb⟩
      replace K := ((K.keep hb).alloc (.cells #[.int .i64 x1, .int .i64 x2] 25)).add (cl_box _ _ _) (BoxN.new _ 25 #[.int .i64 x1, .int .i64 x2])
      clear hb
      clear s0 s1 s2 s3 ks
      have s0 := (K.get 2 rfl).cell 0
      have s1 := (K.get 2 rfl).cell 1
      have s2 := (K.get 2 rfl).cell 2
      have s3 := (K.get 2 rfl).cell 3
      have ks := (K.get 2 rfl).lt
      go_wp2_with fail
      (with_reducible refine (HB1.out _ K.b).mono ?_); rintro _ U3 ⟨rfl, hb⟩
      replace K := ((K.keep hb).alloc (.cells #[.int .i64 y1, .int .i64 y2] 25)).add (cl_box _ _ _) (BoxN.new _ 25 #[.int .i64 y1, .int .i64 y2])
      clear hb
      clear s0 s1 s2 s3 ks
      have s0 := (K.get 3 rfl).cell 0
      have s1 := (K.get 3 rfl).cell 1
      have s2 := (K.get 3 rfl).cell 2
      have s3 := (K.get 3 rfl).cell 3
      have ks := (K.get 3 rfl).lt
      go_wp2_with fail
      (with_reducible refine (HB2.out _ K.b).mono ?_); rintro _ U4 ⟨rfl, hb⟩
      replace K := ((K.keep hb).alloc (.cells #[.int .i64 y1, .int .i64 y2] 25)).add (cl_box _ _ _) (BoxN.new _ 25 #[.int .i64 y1, .int .i64 y2])
      clear hb
      clear s0 s1 s2 s3 ks
      have s0 := (K.get 4 rfl).cell 0
      have s1 := (K.get 4 rfl).cell 1
      have s2 := (K.get 4 rfl).cell 2
      have s3 := (K.get 4 rfl).cell 3
      have t0 := (K.get 5 rfl).cell 0
      have t1 := (K.get 5 rfl).cell 1
      have t2 := (K.get 5 rfl).cell 2
      have t3 := (K.get 5 rfl).cell 3
      have ks := (K.get 4 rfl).lt
      have kt := (K.get 5 rfl).lt
      go_wp2_with fail
      (with_reducible refine (HC1.out _).mono ?_); rintro _ U5 ⟨rfl, hb⟩
      replace K := ((K.keep hb).alloc (.cells #[.int .i64 q1, .int .i64 q2, .int .i64 q3, .int .i64 q4] 52)).add (cl_box _ _ _) (BoxN.new _ 52 #[.int .i64 q1, .int .i64 q2, .int .i64 q3, .int .i64 q4])
      clear hb
      clear s0 s1 s2 s3 t0 t1 t2 t3 ks kt
      have s0 := (K.get 5 rfl).cell 0
      have s1 := (K.get 5 rfl).cell 1
      have s2 := (K.get 5 rfl).cell 2
      have s3 := (K.get 5 rfl).cell 3
      have t0 := (K.get 6 rfl).cell 0
      have t1 := (K.get 6 rfl).cell 1
      have t2 := (K.get 6 rfl).cell 2
      have t3 := (K.get 6 rfl).cell 3
      have ks := (K.get 5 rfl).lt
      have kt := (K.get 6 rfl).lt
      go_wp2_with fail
      (with_reducible refine (HC2.out _).mono ?_); rintro _ U6 ⟨rfl, hb⟩
      replace K := ((K.keep hb).alloc (.cells #[.int .i64 q1, .int .i64 q2, .int .i64 q3, .int .i64 q4] 52)).add (cl_box _ _ _) (BoxN.new _ 52 #[.int .i64 q1, .int .i64 q2, .int .i64 q3, .int .i64 q4])
      clear hb
      clear s0 s1 s2 s3 t0 t1 t2 t3 ks kt
      go_wp2_with fail
      have a_0 := (K.get 5 rfl).cell 0
      have a_1 := (K.get 5 rfl).cell 1
      have k_a := (K.get 5 rfl).lt
      have b_0 := (K.get 4 rfl).cell 0
      have b_1 := (K.get 4 rfl).cell 1
      have k_b := (K.get 4 rfl).lt
      have c_0 := (K.get 3 rfl).cell 0
      have c_1 := (K.get 3 rfl).cell 1
      have k_c := (K.get 3 rfl).lt
      have d_0 := (K.get 2 rfl).cell 0
      have d_1 := (K.get 2 rfl).cell 1
      have k_d := (K.get 2 rfl).lt
      have e_0 := (K.get 1 rfl).cell 0
      have e_1 := (K.get 1 rfl).cell 1
      have e_2 := (K.get 1 rfl).cell 2
      have e_3 := (K.get 1 rfl).cell 3
      have k_e := (K.get 1 rfl).lt
      have f_0 := (K.get 0 rfl).cell 0
      have f_1 := (K.get 0 rfl).cell 1
      have f_2 := (K.get 0 rfl).cell 2
      have f_3 := (K.get 0 rfl).cell 3
      have k_f := (K.get 0 rfl).lt
      have s_0 := (K.get 6 rfl).cell 0
      have s_1 := (K.get 6 rfl).cell 1
      have s_2 := (K.get 6 rfl).cell 2
      have s_3 := (K.get 6 rfl).cell 3
      have k_s := (K.get 6 rfl).lt
      have HK := Lib.hid K.b
      clear K
      generalize hUZ : U6.alloc (.cells #[.int .i64 q1, .int .i64 q2, .int .i64 q3, .int .i64 q4] 52) = UZ at *
      clear hUZ
      refine wp_region_inv (Inv := fun Lb a W => ∃ (b0 b1 b2 b3 b4 b5 b6 b7 b8 b9 b10 b11 b12 b13 b14 b15 b16 b17 b18 b19 b20 b21 b22 b23 b24 b25 b26 b27 b28 b29 b30 b31 b32 b33 b34 b35 b36 b37 b38 : Bool) (Gx : Nat), Lb = #[b0, b1, b2, b3, b4, b5, b6, b7, b8, b9, b10, b11, b12, b13, b14, b15, b16, b17, b18, b19, b20, b21, b22, b23, b24, b25, b26, b27, b28, b29, b30, b31, b32, b33, b34, b35, b36, b37, b38] ∧ a = { tmps := #[Value.slice A cs.length cap, Value.agg #[Value.int IntKind.i64 an, Value.int IntKind.i64 ad, Value.int IntKind.i64 bn, Value.int IntKind.i64 bd], Value.agg #[Value.int IntKind.i64 cn, Value.int IntKind.i64 cd, Value.int IntKind.i64 dn, Value.int IntKind.i64 dd], undef, Value.pointer (some ⟨w.heap.size, 0, none⟩), Value.pointer (some ⟨w.heap.size + 1, 0, none⟩), (bif b38 then .bool true else u6), undef, u8, Value.pointer (some ⟨U1.heap.size, 0, none⟩), Value.int IntKind.i64 x3, Value.pointer (some ⟨U2.heap.size, 0, none⟩), Value.int IntKind.i64 x3, Value.pointer (some ⟨U3.heap.size, 0, none⟩), Value.int IntKind.i64 y3, Value.pointer (some ⟨U4.heap.size, 0, none⟩), Value.int IntKind.i64 y3, Value.pointer (some ⟨U5.heap.size, 0, none⟩), Value.int IntKind.i64 q5, Value.pointer (some ⟨U6.heap.size, 0, none⟩), Value.int IntKind.i64 q5, Value.slice A cs.length cap, Value.int IntKind.i64 ↑cs.length, Value.bool false, undef, Value.slice A cs.length cap, Value.int IntKind.i64 ↑cs.length, Value.int IntKind.i64 ↑cs.length, Value.bool false, u29, u30, u31, u32, u33, u34, u35, Value.tuple #[Value.agg #[Value.int IntKind.i64 x1, Value.int IntKind.i64 x2], Value.int IntKind.i64 x3], Value.slice A cs.length cap, Value.agg #[Value.int IntKind.i64 an, Value.int IntKind.i64 ad, Value.int IntKind.i64 bn, Value.int IntKind.i64 bd], Value.tuple #[Value.agg #[Value.int IntKind.i64 x1, Value.int IntKind.i64 x2], Value.int IntKind.i64 x3], Value.agg #[Value.int IntKind.i64 x1, Value.int IntKind.i64 x2], Value.int IntKind.i64 x3, Value.tuple #[Value.agg #[Value.int IntKind.i64 x1, Value.int IntKind.i64 x2], Value.int IntKind.i64 x3], Value.slice A cs.length cap, Value.agg #[Value.int IntKind.i64 an, Value.int IntKind.i64 ad, Value.int IntKind.i64 bn, Value.int IntKind.i64 bd], Value.tuple #[Value.agg #[Value.int IntKind.i64 x1, Value.int IntKind.i64 x2], Value.int IntKind.i64 x3], Value.agg #[Value.int IntKind.i64 x1, Value.int IntKind.i64 x2], Value.int IntKind.i64 x3, Value.tuple #[Value.agg #[Value.int IntKind.i64 y1, Value.int IntKind.i64 y2], Value.int IntKind.i64 y3], Value.slice A cs.length cap, Value.agg #[Value.int IntKind.i64 an, Value.int IntKind.i64 ad, Value.int IntKind.i64 bn, Value.int IntKind.i64 bd], Value.tuple #[Value.agg #[Value.int IntKind.i64 y1, Value.int IntKind.i64 y2], Value.int IntKind.i64 y3], Value.agg #[Value.int IntKind.i64 y1, Value.int IntKind.i64 y2], Value.int IntKind.i64 y3, Value.tuple #[Value.agg #[Value.int IntKind.i64 y1, Value.int IntKind.i64 y2], Value.int IntKind.i64 y3], Value.slice A cs.length cap, Value.agg #[Value.int IntKind.i64 an, Value.int IntKind.i64 ad, Value.int IntKind.i64 bn, Value.int IntKind.i64 bd], Value.tuple #[Value.agg #[Value.int IntKind.i64 y1, Value.int IntKind.i64 y2], Value.int IntKind.i64 y3], Value.agg #[Value.int IntKind.i64 y1, Value.int IntKind.i64 y2], Value.int IntKind.i64 y3, Value.tuple #[Value.agg #[Value.int IntKind.i64 q1, Value.int IntKind.i64 q2, Value.int IntKind.i64 q3, Value.int IntKind.i64 q4], Value.int IntKind.i64 q5], Value.agg #[Value.int IntKind.i64 an, Value.int IntKind.i64 ad, Value.int IntKind.i64 bn, Value.int IntKind.i64 bd], Value.agg #[Value.int IntKind.i64 cn, Value.int IntKind.i64 cd, Value.int IntKind.i64 dn, Value.int IntKind.i64 dd], Value.tuple #[Value.agg #[Value.int IntKind.i64 q1, Value.int IntKind.i64 q2, Value.int IntKind.i64 q3, Value.int IntKind.i64 q4], Value.int IntKind.i64 q5], Value.agg #[Value.int IntKind.i64 q1, Value.int IntKind.i64 q2, Value.int IntKind.i64 q3, Value.int IntKind.i64 q4], Value.int IntKind.i64 q5, Value.tuple #[Value.agg #[Value.int IntKind.i64 q1, Value.int IntKind.i64 q2, Value.int IntKind.i64 q3, Value.int IntKind.i64 q4], Value.int IntKind.i64 q5], Value.agg #[Value.int IntKind.i64 an, Value.int IntKind.i64 ad, Value.int IntKind.i64 bn, Value.int IntKind.i64 bd], Value.agg #[Value.int IntKind.i64 cn, Value.int IntKind.i64 cd, Value.int IntKind.i64 dn, Value.int IntKind.i64 dd], Value.tuple #[Value.agg #[Value.int IntKind.i64 q1, Value.int IntKind.i64 q2, Value.int IntKind.i64 q3, Value.int IntKind.i64 q4], Value.int IntKind.i64 q5], Value.agg #[Value.int IntKind.i64 q1, Value.int IntKind.i64 q2, Value.int IntKind.i64 q3, Value.int IntKind.i64 q4], Value.int IntKind.i64 q5, (bif b0 then .agg #[.int .i64 x1, .int .i64 x2] else undef), (bif b1 then .agg #[.int .i64 x1, .int .i64 x2] else undef), (bif b2 then .bool true else undef), (bif b3 then .bool true else undef), (bif b4 then .int .i64 x3 else undef), (bif b5 then .int .i64 x3 else undef), (bif b6 then .bool true else undef), (bif b7 then .bool true else undef), (bif b8 then .bool true else undef), (bif b9 then .agg #[.int .i64 y1, .int .i64 y2] else undef), (bif b10 then .agg #[.int .i64 y1, .int .i64 y2] else undef), (bif b11 then .bool true else undef), (bif b12 then .bool true else undef), (bif b13 then .bool true else undef), (bif b14 then .int .i64 y3 else undef), (bif b15 then .int .i64 y3 else undef), (bif b16 then .bool true else undef), (bif b17 then .bool true else undef), (bif b18 then .bool true else undef), (bif b19 then .agg #[.int .i64 q1, .int .i64 q2, .int .i64 q3, .int .i64 q4] else undef), (bif b20 then .agg #[.int .i64 q1, .int .i64 q2, .int .i64 q3, .int .i64 q4] else undef), (bif b21 then .bool true else undef), (bif b22 then .bool true else undef), (bif b23 then .bool true else undef), (bif b24 then .int .i64 q5 else undef), (bif b25 then .int .i64 q5 else undef), (bif b26 then .bool true else undef), (bif b27 then .bool true else undef), (bif b28 then .bool true else undef), (bif b29 then .agg #[.int .i64 an, .int .i64 ad, .int .i64 bn, .int .i64 bd] else undef), (bif b30 then .bool sb else undef), (bif b31 then .agg #[.int .i64 an, .int .i64 ad, .int .i64 bn, .int .i64 bd] else undef), (bif b32 then .bool sb else undef), (bif b33 then .bool true else undef), (bif b34 then .bool true else undef), (bif b35 then .bool true else undef), (bif b36 then .bool true else undef), (bif b37 then .bool true else undef)], defers := [] } ∧ Below UZ.heap.size UZ W) (by kernel_rfl) (down_of (by decide +kernel)) ?start ?size ?done ?step
      case start => exact ⟨false, false, false, false, false, false, false, false, false, false, false, false, false, false, false, false, false, false, false, false, false, false, false, false, false, false, false, false, false, false, false, false, false, false, false, false, false, false, false, 0, rfl, rfl, (Below.refl _ _).drew⟩
      case size =>
        rintro Lb aR W ⟨b0, b1, b2, b3, b4, b5, b6, b7, b8, b9, b10, b11, b12, b13, b14, b15, b16, b17, b18, b19, b20, b21, b22, b23, b24, b25, b26, b27, b28, b29, b30, b31, b32, b33, b34, b35, b36, b37, b38, Gx, rfl, -⟩
        rfl
      case step =>
        rintro Lb aR W i o ⟨b0, b1, b2, b3, b4, b5, b6, b7, b8, b9, b10, b11, b12, b13, b14, b15, b16, b17, b18, b19, b20, b21, b22, b23, b24, b25, b26, b27, b28, b29, b30, b31, b32, b33, b34, b35, b36, b37, b38, Gx, rfl, rfl, f0⟩ ho hl' hdep
        have hi' : i < 39 := (Array.getElem?_eq_some_iff.1 ho).1
        have hi2 : i = 0 ∨ i = 1 ∨ i = 2 ∨ i = 3 ∨ i = 4 ∨ i = 5 ∨ i = 6 ∨ i = 7 ∨ i = 8 ∨ i = 9 ∨ i = 10 ∨ i = 11 ∨ i = 12 ∨ i = 13 ∨ i = 14 ∨ i = 15 ∨ i = 16 ∨ i = 17 ∨ i = 18 ∨ i = 19 ∨ i = 20 ∨ i = 21 ∨ i = 22 ∨ i = 23 ∨ i = 24 ∨ i = 25 ∨ i = 26 ∨ i = 27 ∨ i = 28 ∨ i = 29 ∨ i = 30 ∨ i = 31 ∨ i = 32 ∨ i = 33 ∨ i = 34 ∨ i = 35 ∨ i = 36 ∨ i = 37 ∨ i = 38 := by omega
        clear hi'
        replace f0 := Lib.hid f0
        rcases hi2 with rfl | rfl | rfl | rfl | rfl | rfl | rfl | rfl | rfl | rfl | rfl | rfl | rfl | rfl | rfl | rfl | rfl | rfl | rfl | rfl | rfl | rfl | rfl | rfl | rfl | rfl | rfl | rfl | rfl | rfl | rfl | rfl | rfl | rfl | rfl | rfl | rfl | rfl | rfl
        · cases ho
          obtain rfl : b0 = false := hl'
          clear hdep
          have c0 := (f0.out.cell (k_a)).trans a_0
          have c1 := (f0.out.cell (k_a)).trans a_1
          refine wpOp_step rfl (fun K hK => ?_)
          go_simp
          refine hK _ _ ?_; clear hK K
          exact ⟨true, b1, b2, b3, b4, b5, b6, b7, b8, b9, b10, b11, b12, b13, b14, b15, b16, b17, b18, b19, b20, b21, b22, b23, b24, b25, b26, b27, b28, b29, b30, b31, b32, b33, b34, b35, b36, b37, b38, Gx, rfl, rfl, f0.out⟩
        · cases ho
          obtain rfl : b1 = false := hl'
          clear hdep
          have c0 := (f0.out.cell (k_b)).trans b_0
          have c1 := (f0.out.cell (k_b)).trans b_1
          refine wpOp_step rfl (fun K hK => ?_)
          go_simp
          refine hK _ _ ?_; clear hK K
          exact ⟨b0, true, b2, b3, b4, b5, b6, b7, b8, b9, b10, b11, b12, b13, b14, b15, b16, b17, b18, b19, b20, b21, b22, b23, b24, b25, b26, b27, b28, b29, b30, b31, b32, b33, b34, b35, b36, b37, b38, Gx, rfl, rfl, f0.out⟩
        · cases ho
          obtain rfl : b2 = false := hl'
          obtain rfl : b0 = true := hdep ⟨0, .data⟩ (by simp) rfl
          obtain rfl : b1 = true := hdep ⟨1, .data⟩ (by simp) rfl
          clear hdep
          refine wpOp_step rfl (fun K hK => ?_)
          simp only [cond_true]
          go_simp
          refine hK _ _ ?_; clear hK K
          exact ⟨true, true, true, b3, b4, b5, b6, b7, b8, b9, b10, b11, b12, b13, b14, b15, b16, b17, b18, b19, b20, b21, b22, b23, b24, b25, b26, b27, b28, b29, b30, b31, b32, b33, b34, b35, b36, b37, b38, Gx, rfl, rfl, f0.out⟩
        · cases ho
          obtain rfl : b3 = false := hl'
          obtain rfl : b2 = true := hdep ⟨2, .data⟩ (by simp) rfl
          clear hdep
          refine wpOp_step rfl (fun K hK => ?_)
          simp only [cond_true]
          go_simp
          refine hK _ _ ?_; clear hK K
          exact ⟨b0, b1, true, true, b4, b5, b6, b7, b8, b9, b10, b11, b12, b13, b14, b15, b16, b17, b18, b19, b20, b21, b22, b23, b24, b25, b26, b27, b28, b29, b30, b31, b32, b33, b34, b35, b36, b37, b38, Gx, rfl, rfl, f0.out⟩
        · cases ho
          obtain rfl : b4 = false := hl'
          obtain rfl : b3 = true := hdep ⟨3, .guard⟩ (by simp) rfl
          clear hdep
          refine wpOp_step rfl (fun K hK => ?_)
          simp only [cond_true]
          go_simp
          refine hK _ _ ?_; clear hK K
          exact ⟨b0, b1, b2, true, true, b5, b6, b7, b8, b9, b10, b11, b12, b13, b14, b15, b16, b17, b18, b19, b20, b21, b22, b23, b24, b25, b26, b27, b28, b29, b30, b31, b32, b33, b34, b35, b36, b37, b38, Gx, rfl, rfl, f0.out⟩
        · cases ho
          obtain rfl : b5 = false := hl'
          obtain rfl : b3 = true := hdep ⟨3, .guard⟩ (by simp) rfl
          clear hdep
          refine wpOp_step rfl (fun K hK => ?_)
          simp only [cond_true]
          go_simp
          refine hK _ _ ?_; clear hK K
          exact ⟨b0, b1, b2, true, b4, true, b6, b7, b8, b9, b10, b11, b12, b13, b14, b15, b16, b17, b18, b19, b20, b21, b22, b23, b24, b25, b26, b27, b28, b29, b30, b31, b32, b33, b34, b35, b36, b37, b38, Gx, rfl, rfl, f0.out⟩
        · cases ho
          obtain rfl : b6 = false := hl'
          obtain rfl : b4 = true := hdep ⟨4, .data⟩ (by simp) rfl
          obtain rfl : b5 = true := hdep ⟨5, .data⟩ (by simp) rfl
          obtain rfl : b3 = true := hdep ⟨3, .guard⟩ (by simp) rfl
          clear hdep
          refine wpOp_step rfl (fun K hK => ?_)
          simp only [cond_true]
          go_simp
          refine hK _ _ ?_; clear hK K
          exact ⟨b0, b1, b2, true, true, true, true, b7, b8, b9, b10, b11, b12, b13, b14, b15, b16, b17, b18, b19, b20, b21, b22, b23, b24, b25, b26, b27, b28, b29, b30, b31, b32, b33, b34, b35, b36, b37, b38, Gx, rfl, rfl, f0.out⟩
        · cases ho
          obtain rfl : b7 = false := hl'
          obtain rfl : b3 = true := hdep ⟨3, .data⟩ (by simp) rfl
          obtain rfl : b6 = true := hdep ⟨6, .data⟩ (by simp) rfl
          clear hdep
          refine wpOp_step rfl (fun K hK => ?_)
          simp only [cond_true]
          go_simp
          refine hK _ _ ?_; clear hK K
          exact ⟨b0, b1, b2, true, b4, b5, true, true, b8, b9, b10, b11, b12, b13, b14, b15, b16, b17, b18, b19, b20, b21, b22, b23, b24, b25, b26, b27, b28, b29, b30, b31, b32, b33, b34, b35, b36, b37, b38, Gx, rfl, rfl, f0.out⟩
        · cases ho
          obtain rfl : b8 = false := hl'
          obtain rfl : b7 = true := hdep ⟨7, .data⟩ (by simp) rfl
          clear hdep
          refine wpOp_step rfl (fun K hK => ?_)
          simp only [cond_true]
          go_simp
          refine hK _ _ ?_; clear hK K
          exact ⟨b0, b1, b2, b3, b4, b5, b6, true, true, b9, b10, b11, b12, b13, b14, b15, b16, b17, b18, b19, b20, b21, b22, b23, b24, b25, b26, b27, b28, b29, b30, b31, b32, b33, b34, b35, b36, b37, b38, Gx, rfl, rfl, f0.out⟩
        · cases ho
          obtain rfl : b9 = false := hl'
          obtain rfl : b8 = true := hdep ⟨8, .guard⟩ (by simp) rfl
          clear hdep
          have c0 := (f0.out.cell (k_c)).trans c_0
          have c1 := (f0.out.cell (k_c)).trans c_1
          refine wpOp_step rfl (fun K hK => ?_)
          simp only [cond_true]
          go_simp
          refine hK _ _ ?_; clear hK K
          exact ⟨b0, b1, b2, b3, b4, b5, b6, b7, true, true, b10, b11, b12, b13, b14, b15, b16, b17, b18, b19, b20, b21, b22, b23, b24, b25, b26, b27, b28, b29, b30, b31, b32, b33, b34, b35, b36, b37, b38, Gx, rfl, rfl, f0.out⟩
        · cases ho
          obtain rfl : b10 = false := hl'
          obtain rfl : b8 = true := hdep ⟨8, .guard⟩ (by simp) rfl
          clear hdep
          have c0 := (f0.out.cell (k_d)).trans d_0
          have c1 := (f0.out.cell (k_d)).trans d_1
          refine wpOp_step rfl (fun K hK => ?_)
          simp only [cond_true]
          go_simp
          refine hK _ _ ?_; clear hK K
          exact ⟨b0, b1, b2, b3, b4, b5, b6, b7, true, b9, true, b11, b12, b13, b14, b15, b16, b17, b18, b19, b20, b21, b22, b23, b24, b25, b26, b27, b28, b29, b30, b31, b32, b33, b34, b35, b36, b37, b38, Gx, rfl, rfl, f0.out⟩
        · cases ho
          obtain rfl : b11 = false := hl'
          obtain rfl : b9 = true := hdep ⟨9, .data⟩ (by simp) rfl
          obtain rfl : b10 = true := hdep ⟨10, .data⟩ (by simp) rfl
          obtain rfl : b8 = true := hdep ⟨8, .guard⟩ (by simp) rfl
          clear hdep
          refine wpOp_step rfl (fun K hK => ?_)
          simp only [cond_true]
          go_simp
          refine hK _ _ ?_; clear hK K
          exact ⟨b0, b1, b2, b3, b4, b5, b6, b7, true, true, true, true, b12, b13, b14, b15, b16, b17, b18, b19, b20, b21, b22, b23, b24, b25, b26, b27, b28, b29, b30, b31, b32, b33, b34, b35, b36, b37, b38, Gx, rfl, rfl, f0.out⟩
        · cases ho
          obtain rfl : b12 = false := hl'
          obtain rfl : b8 = true := hdep ⟨8, .data⟩ (by simp) rfl
          obtain rfl : b11 = true := hdep ⟨11, .data⟩ (by simp) rfl
          clear hdep
          refine wpOp_step rfl (fun K hK => ?_)
          simp only [cond_true]
          go_simp
          refine hK _ _ ?_; clear hK K
          exact ⟨b0, b1, b2, b3, b4, b5, b6, b7, true, b9, b10, true, true, b13, b14, b15, b16, b17, b18, b19, b20, b21, b22, b23, b24, b25, b26, b27, b28, b29, b30, b31, b32, b33, b34, b35, b36, b37, b38, Gx, rfl, rfl, f0.out⟩
        · cases ho
          obtain rfl : b13 = false := hl'
          obtain rfl : b12 = true := hdep ⟨12, .data⟩ (by simp) rfl
          clear hdep
          refine wpOp_step rfl (fun K hK => ?_)
          simp only [cond_true]
          go_simp
          refine hK _ _ ?_; clear hK K
          exact ⟨b0, b1, b2, b3, b4, b5, b6, b7, b8, b9, b10, b11, true, true, b14, b15, b16, b17, b18, b19, b20, b21, b22, b23, b24, b25, b26, b27, b28, b29, b30, b31, b32, b33, b34, b35, b36, b37, b38, Gx, rfl, rfl, f0.out⟩
        · cases ho
          obtain rfl : b14 = false := hl'
          obtain rfl : b13 = true := hdep ⟨13, .guard⟩ (by simp) rfl
          clear hdep
          refine wpOp_step rfl (fun K hK => ?_)
          simp only [cond_true]
          go_simp
          refine hK _ _ ?_; clear hK K
          exact ⟨b0, b1, b2, b3, b4, b5, b6, b7, b8, b9, b10, b11, b12, true, true, b15, b16, b17, b18, b19, b20, b21, b22, b23, b24, b25, b26, b27, b28, b29, b30, b31, b32, b33, b34, b35, b36, b37, b38, Gx, rfl, rfl, f0.out⟩
        · cases ho
          obtain rfl : b15 = false := hl'
          obtain rfl : b13 = true := hdep ⟨13, .guard⟩ (by simp) rfl
          clear hdep
          refine wpOp_step rfl (fun K hK => ?_)
          simp only [cond_true]
          go_simp
          refine hK _ _ ?_; clear hK K
          exact ⟨b0, b1, b2, b3, b4, b5, b6, b7, b8, b9, b10, b11, b12, true, b14, true, b16, b17, b18, b19, b20, b21, b22, b23, b24, b25, b26, b27, b28, b29, b30, b31, b32, b33, b34, b35, b36, b37, b38, Gx, rfl, rfl, f0.out⟩
        · cases ho
          obtain rfl : b16 = false := hl'
          obtain rfl : b14 = true := hdep ⟨14, .data⟩ (by simp) rfl
          obtain rfl : b15 = true := hdep ⟨15, .data⟩ (by simp) rfl
          obtain rfl : b13 = true := hdep ⟨13, .guard⟩ (by simp) rfl
          clear hdep
          refine wpOp_step rfl (fun K hK => ?_)
          simp only [cond_true]
          go_simp
          refine hK _ _ ?_; clear hK K
          exact ⟨b0, b1, b2, b3, b4, b5, b6, b7, b8, b9, b10, b11, b12, true, true, true, true, b17, b18, b19, b20, b21, b22, b23, b24, b25, b26, b27, b28, b29, b30, b31, b32, b33, b34, b35, b36, b37, b38, Gx, rfl, rfl, f0.out⟩
        · cases ho
          obtain rfl : b17 = false := hl'
          obtain rfl : b13 = true := hdep ⟨13, .data⟩ (by simp) rfl
          obtain rfl : b16 = true := hdep ⟨16, .data⟩ (by simp) rfl
          clear hdep
          refine wpOp_step rfl (fun K hK => ?_)
          simp only [cond_true]
          go_simp
          refine hK _ _ ?_; clear hK K
          exact ⟨b0, b1, b2, b3, b4, b5, b6, b7, b8, b9, b10, b11, b12, true, b14, b15, true, true, b18, b19, b20, b21, b22, b23, b24, b25, b26, b27, b28, b29, b30, b31, b32, b33, b34, b35, b36, b37, b38, Gx, rfl, rfl, f0.out⟩
        · cases ho
          obtain rfl : b18 = false := hl'
          obtain rfl : b17 = true := hdep ⟨17, .data⟩ (by simp) rfl
          clear hdep
          refine wpOp_step rfl (fun K hK => ?_)
          simp only [cond_true]
          go_simp
          refine hK _ _ ?_; clear hK K
          exact ⟨b0, b1, b2, b3, b4, b5, b6, b7, b8, b9, b10, b11, b12, b13, b14, b15, b16, true, true, b19, b20, b21, b22, b23, b24, b25, b26, b27, b28, b29, b30, b31, b32, b33, b34, b35, b36, b37, b38, Gx, rfl, rfl, f0.out⟩
        · cases ho
          obtain rfl : b19 = false := hl'
          obtain rfl : b18 = true := hdep ⟨18, .guard⟩ (by simp) rfl
          clear hdep
          have c0 := (f0.out.cell (k_e)).trans e_0
          have c1 := (f0.out.cell (k_e)).trans e_1
          have c2 := (f0.out.cell (k_e)).trans e_2
          have c3 := (f0.out.cell (k_e)).trans e_3
          refine wpOp_step rfl (fun K hK => ?_)
          simp only [cond_true]
          go_simp
          refine hK _ _ ?_; clear hK K
          exact ⟨b0, b1, b2, b3, b4, b5, b6, b7, b8, b9, b10, b11, b12, b13, b14, b15, b16, b17, true, true, b20, b21, b22, b23, b24, b25, b26, b27, b28, b29, b30, b31, b32, b33, b34, b35, b36, b37, b38, Gx, rfl, rfl, f0.out⟩
        · cases ho
          obtain rfl : b20 = false := hl'
          obtain rfl : b18 = true := hdep ⟨18, .guard⟩ (by simp) rfl
          clear hdep
          have c0 := (f0.out.cell (k_f)).trans f_0
          have c1 := (f0.out.cell (k_f)).trans f_1
          have c2 := (f0.out.cell (k_f)).trans f_2
          have c3 := (f0.out.cell (k_f)).trans f_3
          refine wpOp_step rfl (fun K hK => ?_)
          simp only [cond_true]
          go_simp
          refine hK _ _ ?_; clear hK K
          exact ⟨b0, b1, b2, b3, b4, b5, b6, b7, b8, b9, b10, b11, b12, b13, b14, b15, b16, b17, true, b19, true, b21, b22, b23, b24, b25, b26, b27, b28, b29, b30, b31, b32, b33, b34, b35, b36, b37, b38, Gx, rfl, rfl, f0.out⟩
        · cases ho
          obtain rfl : b21 = false := hl'
          obtain rfl : b19 = true := hdep ⟨19, .data⟩ (by simp) rfl
          obtain rfl : b20 = true := hdep ⟨20, .data⟩ (by simp) rfl
          obtain rfl : b18 = true := hdep ⟨18, .guard⟩ (by simp) rfl
          clear hdep
          refine wpOp_step rfl (fun K hK => ?_)
          simp only [cond_true]
          go_simp
          refine hK _ _ ?_; clear hK K
          exact ⟨b0, b1, b2, b3, b4, b5, b6, b7, b8, b9, b10, b11, b12, b13, b14, b15, b16, b17, true, true, true, true, b22, b23, b24, b25, b26, b27, b28, b29, b30, b31, b32, b33, b34, b35, b36, b37, b38, Gx, rfl, rfl, f0.out⟩
        · cases ho
          obtain rfl : b22 = false := hl'
          obtain rfl : b18 = true := hdep ⟨18, .data⟩ (by simp) rfl
          obtain rfl : b21 = true := hdep ⟨21, .data⟩ (by simp) rfl
          clear hdep
          refine wpOp_step rfl (fun K hK => ?_)
          simp only [cond_true]
          go_simp
          refine hK _ _ ?_; clear hK K
          exact ⟨b0, b1, b2, b3, b4, b5, b6, b7, b8, b9, b10, b11, b12, b13, b14, b15, b16, b17, true, b19, b20, true, true, b23, b24, b25, b26, b27, b28, b29, b30, b31, b32, b33, b34, b35, b36, b37, b38, Gx, rfl, rfl, f0.out⟩
        · cases ho
          obtain rfl : b23 = false := hl'
          obtain rfl : b22 = true := hdep ⟨22, .data⟩ (by simp) rfl
          clear hdep
          refine wpOp_step rfl (fun K hK => ?_)
          simp only [cond_true]
          go_simp
          refine hK _ _ ?_; clear hK K
          exact ⟨b0, b1, b2, b3, b4, b5, b6, b7, b8, b9, b10, b11, b12, b13, b14, b15, b16, b17, b18, b19, b20, b21, true, true, b24, b25, b26, b27, b28, b29, b30, b31, b32, b33, b34, b35, b36, b37, b38, Gx, rfl, rfl, f0.out⟩
        · cases ho
          obtain rfl : b24 = false := hl'
          obtain rfl : b23 = true := hdep ⟨23, .guard⟩ (by simp) rfl
          clear hdep
          refine wpOp_step rfl (fun K hK => ?_)
          simp only [cond_true]
          go_simp
          refine hK _ _ ?_; clear hK K
          exact ⟨b0, b1, b2, b3, b4, b5, b6, b7, b8, b9, b10, b11, b12, b13, b14, b15, b16, b17, b18, b19, b20, b21, b22, true, true, b25, b26, b27, b28, b29, b30, b31, b32, b33, b34, b35, b36, b37, b38, Gx, rfl, rfl, f0.out⟩
        · cases ho
          obtain rfl : b25 = false := hl'
          obtain rfl : b23 = true := hdep ⟨23, .guard⟩ (by simp) rfl
          clear hdep
          refine wpOp_step rfl (fun K hK => ?_)
          simp only [cond_true]
          go_simp
          refine hK _ _ ?_; clear hK K
          exact ⟨b0, b1, b2, b3, b4, b5, b6, b7, b8, b9, b10, b11, b12, b13, b14, b15, b16, b17, b18, b19, b20, b21, b22, true, b24, true, b26, b27, b28, b29, b30, b31, b32, b33, b34, b35, b36, b37, b38, Gx, rfl, rfl, f0.out⟩
        · cases ho
          obtain rfl : b26 = false := hl'
          obtain rfl : b24 = true := hdep ⟨24, .data⟩ (by simp) rfl
          obtain rfl : b25 = true := hdep ⟨25, .data⟩ (by simp) rfl
          obtain rfl : b23 = true := hdep ⟨23, .guard⟩ (by simp) rfl
          clear hdep
          refine wpOp_step rfl (fun K hK => ?_)
          simp only [cond_true]
          go_simp
          refine hK _ _ ?_; clear hK K
          exact ⟨b0, b1, b2, b3, b4, b5, b6, b7, b8, b9, b10, b11, b12, b13, b14, b15, b16, b17, b18, b19, b20, b21, b22, true, true, true, true, b27, b28, b29, b30, b31, b32, b33, b34, b35, b36, b37, b38, Gx, rfl, rfl, f0.out⟩
        · cases ho
          obtain rfl : b27 = false := hl'
          obtain rfl : b23 = true := hdep ⟨23, .data⟩ (by simp) rfl
          obtain rfl : b26 = true := hdep ⟨26, .data⟩ (by simp) rfl
          clear hdep
          refine wpOp_step rfl (fun K hK => ?_)
          simp only [cond_true]
          go_simp
          refine hK _ _ ?_; clear hK K
          exact ⟨b0, b1, b2, b3, b4, b5, b6, b7, b8, b9, b10, b11, b12, b13, b14, b15, b16, b17, b18, b19, b20, b21, b22, true, b24, b25, true, true, b28, b29, b30, b31, b32, b33, b34, b35, b36, b37, b38, Gx, rfl, rfl, f0.out⟩
        · cases ho
          obtain rfl : b28 = false := hl'
          obtain rfl : b27 = true := hdep ⟨27, .data⟩ (by simp) rfl
          clear hdep
          refine wpOp_step rfl (fun K hK => ?_)
          simp only [cond_true]
          go_simp
          refine hK _ _ ?_; clear hK K
          exact ⟨b0, b1, b2, b3, b4, b5, b6, b7, b8, b9, b10, b11, b12, b13, b14, b15, b16, b17, b18, b19, b20, b21, b22, b23, b24, b25, b26, true, true, b29, b30, b31, b32, b33, b34, b35, b36, b37, b38, Gx, rfl, rfl, f0.out⟩
        · cases ho
          obtain rfl : b29 = false := hl'
          obtain rfl : b28 = true := hdep ⟨28, .guard⟩ (by simp) rfl
          clear hdep
          have c0 := (f0.out.cell (k_s)).trans s_0
          have c1 := (f0.out.cell (k_s)).trans s_1
          have c2 := (f0.out.cell (k_s)).trans s_2
          have c3 := (f0.out.cell (k_s)).trans s_3
          refine wpOp_step rfl (fun K hK => ?_)
          simp only [cond_true]
          go_simp
          refine hK _ _ ?_; clear hK K
          exact ⟨b0, b1, b2, b3, b4, b5, b6, b7, b8, b9, b10, b11, b12, b13, b14, b15, b16, b17, b18, b19, b20, b21, b22, b23, b24, b25, b26, b27, true, true, b30, b31, b32, b33, b34, b35, b36, b37, b38, Gx, rfl, rfl, f0.out⟩
        · cases ho
          obtain rfl : b30 = false := hl'
          obtain rfl : b29 = true := hdep ⟨29, .data⟩ (by simp) rfl
          obtain rfl : b28 = true := hdep ⟨28, .guard⟩ (by simp) rfl
          clear hdep
          refine wpOp_step rfl (fun K hK => ?_)
          simp only [cond_true]
          go_simp
          (with_reducible refine (HV1.out _).mono ?_); rintro e w4 ⟨rfl, hb⟩
          refine hK _ _ ?_; clear hK K
          exact ⟨b0, b1, b2, b3, b4, b5, b6, b7, b8, b9, b10, b11, b12, b13, b14, b15, b16, b17, b18, b19, b20, b21, b22, b23, b24, b25, b26, b27, true, true, true, b31, b32, b33, b34, b35, b36, b37, b38, Gx, rfl, rfl, f0.out.trans (hb.mono f0.out.size)⟩
        · cases ho
          obtain rfl : b31 = false := hl'
          obtain rfl : b28 = true := hdep ⟨28, .guard⟩ (by simp) rfl
          clear hdep
          have c0 := (f0.out.cell (k_s)).trans s_0
          have c1 := (f0.out.cell (k_s)).trans s_1
          have c2 := (f0.out.cell (k_s)).trans s_2
          have c3 := (f0.out.cell (k_s)).trans s_3
          refine wpOp_step rfl (fun K hK => ?_)
          simp only [cond_true]
          go_simp
          refine hK _ _ ?_; clear hK K
          exact ⟨b0, b1, b2, b3, b4, b5, b6, b7, b8, b9, b10, b11, b12, b13, b14, b15, b16, b17, b18, b19, b20, b21, b22, b23, b24, b25, b26, b27, true, b29, b30, true, b32, b33, b34, b35, b36, b37, b38, Gx, rfl, rfl, f0.out⟩
        · cases ho
          obtain rfl : b32 = false := hl'
          obtain rfl : b31 = true := hdep ⟨31, .data⟩ (by simp) rfl
          obtain rfl : b28 = true := hdep ⟨28, .guard⟩ (by simp) rfl
          clear hdep
          refine wpOp_step rfl (fun K hK => ?_)
          simp only [cond_true]
          go_simp
          (with_reducible refine (HV2.out _).mono ?_); rintro e w4 ⟨rfl, hb⟩
          refine hK _ _ ?_; clear hK K
          exact ⟨b0, b1, b2, b3, b4, b5, b6, b7, b8, b9, b10, b11, b12, b13, b14, b15, b16, b17, b18, b19, b20, b21, b22, b23, b24, b25, b26, b27, true, b29, b30, true, true, b33, b34, b35, b36, b37, b38, Gx, rfl, rfl, f0.out.trans (hb.mono f0.out.size)⟩
        · cases ho
          obtain rfl : b33 = false := hl'
          obtain rfl : b30 = true := hdep ⟨30, .data⟩ (by simp) rfl
          obtain rfl : b32 = true := hdep ⟨32, .data⟩ (by simp) rfl
          obtain rfl : b28 = true := hdep ⟨28, .guard⟩ (by simp) rfl
          clear hdep
          refine wpOp_step rfl (fun K hK => ?_)
          simp only [cond_true]
          go_simp
          refine hK _ _ ?_; clear hK K
          exact ⟨b0, b1, b2, b3, b4, b5, b6, b7, b8, b9, b10, b11, b12, b13, b14, b15, b16, b17, b18, b19, b20, b21, b22, b23, b24, b25, b26, b27, true, b29, true, b31, true, true, b34, b35, b36, b37, b38, Gx, rfl, rfl, f0.out⟩
        · cases ho
          obtain rfl : b34 = false := hl'
          obtain rfl : b28 = true := hdep ⟨28, .data⟩ (by simp) rfl
          obtain rfl : b33 = true := hdep ⟨33, .data⟩ (by simp) rfl
          clear hdep
          refine wpOp_step rfl (fun K hK => ?_)
          simp only [cond_true]
          go_simp
          refine hK _ _ ?_; clear hK K
          exact ⟨b0, b1, b2, b3, b4, b5, b6, b7, b8, b9, b10, b11, b12, b13, b14, b15, b16, b17, b18, b19, b20, b21, b22, b23, b24, b25, b26, b27, true, b29, b30, b31, b32, true, true, b35, b36, b37, b38, Gx, rfl, rfl, f0.out⟩
        · cases ho
          obtain rfl : b35 = false := hl'
          obtain rfl : b34 = true := hdep ⟨34, .data⟩ (by simp) rfl
          clear hdep
          refine wpOp_step rfl (fun K hK => ?_)
          simp only [cond_true]
          go_simp
          refine hK _ _ ?_; clear hK K
          exact ⟨b0, b1, b2, b3, b4, b5, b6, b7, b8, b9, b10, b11, b12, b13, b14, b15, b16, b17, b18, b19, b20, b21, b22, b23, b24, b25, b26, b27, b28, b29, b30, b31, b32, b33, true, true, b36, b37, b38, Gx, rfl, rfl, f0.out⟩
        · cases ho
          obtain rfl : b36 = false := hl'
          obtain rfl : b35 = true := hdep ⟨35, .guard⟩ (by simp) rfl
          clear hdep
          refine wpOp_step rfl (fun K hK => ?_)
          simp only [cond_true]
          go_simp
          (with_reducible refine (HW.out _).mono ?_); rintro e w4 ⟨rfl, hb⟩
          refine hK _ _ ?_; clear hK K
          exact ⟨b0, b1, b2, b3, b4, b5, b6, b7, b8, b9, b10, b11, b12, b13, b14, b15, b16, b17, b18, b19, b20, b21, b22, b23, b24, b25, b26, b27, b28, b29, b30, b31, b32, b33, b34, true, true, b37, b38, Gx, rfl, rfl, f0.out.trans (hb.mono f0.out.size)⟩
        · cases ho
          obtain rfl : b37 = false := hl'
          obtain rfl : b35 = true := hdep ⟨35, .data⟩ (by simp) rfl
          obtain rfl : b36 = true := hdep ⟨36, .data⟩ (by simp) rfl
          clear hdep
          refine wpOp_step rfl (fun K hK => ?_)
          simp only [cond_true]
          go_simp
          refine hK _ _ ?_; clear hK K
          exact ⟨b0, b1, b2, b3, b4, b5, b6, b7, b8, b9, b10, b11, b12, b13, b14, b15, b16, b17, b18, b19, b20, b21, b22, b23, b24, b25, b26, b27, b28, b29, b30, b31, b32, b33, b34, true, true, true, b38, Gx, rfl, rfl, f0.out⟩
        · cases ho
          obtain rfl : b38 = false := hl'
          obtain rfl : b37 = true := hdep ⟨37, .data⟩ (by simp) rfl
          clear hdep
          refine wpOp_step rfl (fun K hK => ?_)
          simp only [cond_true]
          go_simp
          refine hK _ _ ?_; clear hK K
          exact ⟨b0, b1, b2, b3, b4, b5, b6, b7, b8, b9, b10, b11, b12, b13, b14, b15, b16, b17, b18, b19, b20, b21, b22, b23, b24, b25, b26, b27, b28, b29, b30, b31, b32, b33, b34, b35, b36, true, true, Gx, rfl, rfl, f0.out⟩
      case done =>
        rintro Lb aR W ⟨j0, j1, j2, j3, j4, j5, j6, j7, j8, j9, j10, j11, j12, j13, j14, j15, j16, j17, j18, j19, j20, j21, j22, j23, j24, j25, j26, j27, j28, j29, j30, j31, j32, j33, j34, j35, j36, j37, j38, Gx, rfl, rfl, f0⟩ hall
        obtain rfl : j0 = true := hall 0 (by decide)
        obtain rfl : j1 = true := hall 1 (by decide)
        obtain rfl : j2 = true := hall 2 (by decide)
        obtain rfl : j3 = true := hall 3 (by decide)
        obtain rfl : j4 = true := hall 4 (by decide)
        obtain rfl : j5 = true := hall 5 (by decide)
        obtain rfl : j6 = true := hall 6 (by decide)
        obtain rfl : j7 = true := hall 7 (by decide)
        obtain rfl : j8 = true := hall 8 (by decide)
        obtain rfl : j9 = true := hall 9 (by decide)
        obtain rfl : j10 = true := hall 10 (by decide)
        obtain rfl : j11 = true := hall 11 (by decide)
        obtain rfl : j12 = true := hall 12 (by decide)
        obtain rfl : j13 = true := hall 13 (by decide)
        obtain rfl : j14 = true := hall 14 (by decide)
        obtain rfl : j15 = true := hall 15 (by decide)
        obtain rfl : j16 = true := hall 16 (by decide)
        obtain rfl : j17 = true := hall 17 (by decide)
        obtain rfl : j18 = true := hall 18 (by decide)
        obtain rfl : j19 = true := hall 19 (by decide)
        obtain rfl : j20 = true := hall 20 (by decide)
        obtain rfl : j21 = true := hall 21 (by decide)
        obtain rfl : j22 = true := hall 22 (by decide)
        obtain rfl : j23 = true := hall 23 (by decide)
        obtain rfl : j24 = true := hall 24 (by decide)
        obtain rfl : j25 = true := hall 25 (by decide)
        obtain rfl : j26 = true := hall 26 (by decide)
        obtain rfl : j27 = true := hall 27 (by decide)
        obtain rfl : j28 = true := hall 28 (by decide)
        obtain rfl : j29 = true := hall 29 (by decide)
        obtain rfl : j30 = true := hall 30 (by decide)
        obtain rfl : j31 = true := hall 31 (by decide)
        obtain rfl : j32 = true := hall 32 (by decide)
        obtain rfl : j33 = true := hall 33 (by decide)
        obtain rfl : j34 = true := hall 34 (by decide)
        obtain rfl : j35 = true := hall 35 (by decide)
        obtain rfl : j36 = true := hall 36 (by decide)
        obtain rfl : j37 = true := hall 37 (by decide)
        obtain rfl : j38 = true := hall 38 (by decide)
        clear hall
        have hBe := Lib.hid (HK.out.trans (f0.mono HK.out.size))
        clear f0
        simp only [cond_true]
        go_wp2_with fail
        go_ret
        exact ⟨rfl, hBe.out⟩
end Go.Proofs.YtbncfknjgldcbaaGreat.TlLaw
