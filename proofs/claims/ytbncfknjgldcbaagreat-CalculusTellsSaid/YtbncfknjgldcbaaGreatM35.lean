/- Merged texts: TBad. -/
import Derived.Test.YtbncfknjgldcbaaGreatM24
import Derived.Test.YtbncfknjgldcbaaGreatM9
/- The reference's check, Delay and Backlog of arguments that are not valid. -/
namespace Go.Proofs.YtbncfknjgldcbaaGreat
open Go.RowKit Go.Joins Go.Shelf Go.Sort Num

set_option maxRecDepth 100000 in
set_option maxHeartbeats 4000000 in
theorem rcheck_bad (A : Option Addr) (cap : Nat) (cs : List (List Bk)) (rn rd ln ld : Int) (h1 : I64 rn) (h2 : I64 rd) (h3 : I64 ln) (h4 : I64 ld) (w : World) (hI : isLR A cs w) (hbad : cs.length ≤ 32 → srvB rn rd ln ld = true → cs.all valC = true → False) :
    Calls Tryz.prog 74 #[.slice A cs.length cap, .agg #[.int .i64 rn, .int .i64 rd, .int .i64 ln, .int .i64 ld]] w fun e w' => e = .returned (.tuple #[.slice none 0 0, .int .i64 2]) ∧ Below w.heap.size w w' := by
  have hB0 := (Below.refl w.heap.size w).alloc (Nat.le_refl _) (.cells #[.int .i64 rn, .int .i64 rd, .int .i64 ln, .int .i64 ld] 52)
  have bS := BoxN.new w 52 #[.int .i64 rn, .int .i64 rd, .int .i64 ln, .int .i64 ld]
  have s0 := bS.cell 0
  have s1 := bS.cell 1
  have s2 := bS.cell 2
  have s3 := bS.cell 3
  by_cases hl : 32 < cs.length
  · have z : decide ((32 : Int) < cs.length) = true := decide_eq_true (by omega)
    have hB := Lib.hid hB0
    clear hI hbad hB0
    go_enter Tryz.func74, Tryz.ntmps74
    go_wp2_with fail
    go_ret2
    exact ⟨rfl, hB.out⟩
  have z : decide ((32 : Int) < cs.length) = false := decide_eq_false (by omega)
  have HV := Lib.hid (fun W => rserver_any rn rd ln ld h1 h2 h3 h4 W)
  obtain ⟨hbd, vs, hvl, hv, hvc⟩ := hI
  have HX : Hid (∀ (j : Nat) (v : Value) (c : List Bk), vs[j]? = some v → cs[j]? = some c → ∃ (B : Option Addr) (lc cb : Nat), v = .slice B lc cb ∧ ∀ W : World, Below w.heap.size w W → Calls Tryz.prog 13 #[.slice B lc cb] W fun e w' => e = .returned (.bool (valC c)) ∧ Below W.heap.size W w') := fun j v c k1 k2 => by
    obtain ⟨B, cb, rfl, hi⟩ := hvc j v c k1 k2
    obtain ⟨m1, m2⟩ := hbd c (List.mem_of_getElem? k2)
    exact ⟨B, c.length, cb, rfl, fun W hW => Ref.valid_c B cb c m1 m2 W ((hi.below hW (Nat.le_refl _)).more hW.size)⟩
  have hv' := Lib.hid hv
  have hbad := Lib.hid (hbad (by omega))
  clear hbd hvc hv
  generalize srvB rn rd ln ld = b1 at HV hbad
  go_enter Tryz.func74, Tryz.ntmps74
  go_wp2_with fail
  (with_reducible refine (HV.out _).mono ?_); rintro _ w1 ⟨rfl, hb1⟩
  have hB1 := Lib.hid (hB0.trans (hb1.mono hB0.size))
  clear s0 s1 s2 s3 hb1 hB0
  cases b1
  · go_wp2_with fail
    go_ret2
    exact ⟨rfl, hB1.out⟩
  go_wp2_with fail
  go_loopw [6] (fun i wr => ∃ k : Nat, k ≤ cs.length ∧ i = .int .i64 ↑k ∧ Hid ((cs.take k).all valC = true) ∧ Hid (Below w1.heap.size w1 wr)) (fun i _ => cs.length - (intOf i).toNat)
  case atStart => exact ⟨0, Nat.zero_le _, rfl, rfl, Below.refl _ _⟩
  case round =>
    obtain ⟨k, hk, rfl, hall, hB⟩ := hrel
    have hBw := Lib.hid (hB1.out.trans (hB.out.mono hB1.out.size))
    by_cases hlt : k < cs.length
    · have hd : decide ((k : Int) < cs.length) = true := decide_eq_true (by omega)
      have hv0 : vs[k]? = some (vs[k]'(by omega)) := List.getElem?_eq_getElem (by omega)
      obtain ⟨v, hve⟩ : ∃ v, vs[k]'(by omega) = v := ⟨_, rfl⟩
      rw [hve] at hv0
      have hc : cs[k]? = some (cs[k]'hlt) := List.getElem?_eq_getElem hlt
      obtain ⟨cv, hcv⟩ : ∃ c, cs[k]'hlt = c := ⟨_, rfl⟩
      rw [hcv] at hc
      obtain ⟨Bc, lc, cc, rfl, HVx⟩ := HX.out k v _ hv0 hc
      obtain ⟨b, off, rfl, hb, hr⟩ := (cl_isV A vs w _ hv'.out hBw.out) (by intro e; rw [e] at hv0; simp at hv0)
      have c0 := hr k _ hv0
      have HVy := HVx wr hBw.out
      have hnx : Hid (valC cv = true → (cs.take (k + 1)).all valC = true) := fun h => by rw [take_succ' hc, List.all_append, hall.out]; simp [h]
      generalize valC cv = q at HVy hnx
      replace HVy := Lib.hid HVy
      clear hv0 hve hc hcv hr HVx
      go_wp2_with fail
      (with_reducible refine (HVy.out).mono ?_); rintro _ w3 ⟨rfl, hb3⟩
      have hB3 := Lib.hid (hB.out.trans (hb3.mono hB.out.size))
      have hBe := Lib.hid (hBw.out.trans (hb3.mono hBw.out.size))
      clear hb3 c0
      cases q with
      | true =>
        have hn2 := Lib.hid (hnx.out rfl)
        go_wp2_with fail
        go_roundw
        case rel => exact ⟨k + 1, by omega, by go_num, hn2.out, hB3.out⟩
        case measure => simp [intOf]; omega
      | false =>
        go_wp2_with fail
        go_ret2
        exact ⟨rfl, hBe.out⟩
    · obtain rfl : k = cs.length := by omega
      have := hall.out
      rw [List.take_length] at this
      exact (hbad.out (by first | trivial | rfl) (by simpa using this)).elim

set_option maxRecDepth 100000 in
set_option maxHeartbeats 2000000 in
theorem rdelay_bad (A : Option Addr) (cap : Nat) (cs : List (List Bk)) (rn rd ln ld : Int) (h1 : I64 rn) (h2 : I64 rd) (h3 : I64 ln) (h4 : I64 ld) (w : World) (hI : isLR A cs w) (hbad : cs.length ≤ 32 → srvB rn rd ln ld = true → cs.all valC = true → False) :
    Calls Tryz.prog 27 #[.slice A cs.length cap, .agg #[.int .i64 rn, .int .i64 rd, .int .i64 ln, .int .i64 ld]] w fun e w' => e = .returned (ratV (0, 0, 2)) ∧ Below w.heap.size w w' := by
  have hB0 := ((Below.refl w.heap.size w).alloc (Nat.le_refl _) (.cells #[.int .i64 rn, .int .i64 rd, .int .i64 ln, .int .i64 ld] 52)).alloc (by simp) (.cells #[.int .i64 0, .int .i64 0] 25)
  have bS := (BoxN.new w 52 #[.int .i64 rn, .int .i64 rd, .int .i64 ln, .int .i64 ld]).alloc (.cells #[.int .i64 0, .int .i64 0] 25)
  have bR := BoxN.new (w.alloc (.cells #[.int .i64 rn, .int .i64 rd, .int .i64 ln, .int .i64 ld] 52)) 25 #[.int .i64 0, .int .i64 0]
  rw [World.size_alloc] at bR
  have HP := Lib.hid (rcheck_bad A cap cs rn rd ln ld h1 h2 h3 h4 _ (cl_isLR A cs w _ hI hB0) hbad)
  have s0 := bS.cell 0
  have s1 := bS.cell 1
  have s2 := bS.cell 2
  have s3 := bS.cell 3
  clear hI hbad
  go_enter Tryz.func27, Tryz.ntmps27
  go_wp2_with fail
  (with_reducible refine (HP.out).mono ?_); rintro _ w1 ⟨rfl, hb1⟩
  have bR1 := bR.below hb1 bR.lt
  have hB := hB0.trans (hb1.mono hB0.size)
  have r0 := bR1.cell 0
  have r1 := bR1.cell 1
  have f0 := bR1.frozen 0
  have f1 := bR1.frozen 1
  have kR := bR1.lt
  have hBe := Lib.hid ((hB.setCell (p := ⟨w.heap.size + 1, 0, none⟩) (by simp) (.int .i64 0)).setCell (p := ⟨w.heap.size + 1, 1, none⟩) (by simp) (.int .i64 0))
  clear hb1 bS bR s0 s1 s2 s3
  go_wp2_with fail
  refine bodyPost_ret (v := ratV (0, 0, 2)) (by simp [results, Tryz.results27, go_sem, ratV, r0, r1]) rfl ⟨rfl, hBe.out⟩

set_option maxRecDepth 100000 in
set_option maxHeartbeats 2000000 in
theorem rback_bad (A : Option Addr) (cap : Nat) (cs : List (List Bk)) (rn rd ln ld : Int) (h1 : I64 rn) (h2 : I64 rd) (h3 : I64 ln) (h4 : I64 ld) (w : World) (hI : isLR A cs w) (hbad : cs.length ≤ 32 → srvB rn rd ln ld = true → cs.all valC = true → False) :
    Calls Tryz.prog 29 #[.slice A cs.length cap, .agg #[.int .i64 rn, .int .i64 rd, .int .i64 ln, .int .i64 ld]] w fun e w' => e = .returned (ratV (0, 0, 2)) ∧ Below w.heap.size w w' := by
  have hB0 := ((Below.refl w.heap.size w).alloc (Nat.le_refl _) (.cells #[.int .i64 rn, .int .i64 rd, .int .i64 ln, .int .i64 ld] 52)).alloc (by simp) (.cells #[.int .i64 0, .int .i64 0] 25)
  have bS := (BoxN.new w 52 #[.int .i64 rn, .int .i64 rd, .int .i64 ln, .int .i64 ld]).alloc (.cells #[.int .i64 0, .int .i64 0] 25)
  have bR := BoxN.new (w.alloc (.cells #[.int .i64 rn, .int .i64 rd, .int .i64 ln, .int .i64 ld] 52)) 25 #[.int .i64 0, .int .i64 0]
  rw [World.size_alloc] at bR
  have HP := Lib.hid (rcheck_bad A cap cs rn rd ln ld h1 h2 h3 h4 _ (cl_isLR A cs w _ hI hB0) hbad)
  have s0 := bS.cell 0
  have s1 := bS.cell 1
  have s2 := bS.cell 2
  have s3 := bS.cell 3
  clear hI hbad
  go_enter Tryz.func29, Tryz.ntmps29
  go_wp2_with fail
  (with_reducible refine (HP.out).mono ?_); rintro _ w1 ⟨rfl, hb1⟩
  have bR1 := bR.below hb1 bR.lt
  have hB := hB0.trans (hb1.mono hB0.size)
  have r0 := bR1.cell 0
  have r1 := bR1.cell 1
  have f0 := bR1.frozen 0
  have f1 := bR1.frozen 1
  have kR := bR1.lt
  have hBe := Lib.hid ((hB.setCell (p := ⟨w.heap.size + 1, 0, none⟩) (by simp) (.int .i64 0)).setCell (p := ⟨w.heap.size + 1, 1, none⟩) (by simp) (.int .i64 0))
  clear hb1 bS bR s0 s1 s2 s3
  go_wp2_with fail
  refine bodyPost_ret (v := ratV (0, 0, 2)) (by simp [results, Tryz.results29, go_sem, ratV, r0, r1]) rfl ⟨rfl, hBe.out⟩
end Go.Proofs.YtbncfknjgldcbaaGreat
