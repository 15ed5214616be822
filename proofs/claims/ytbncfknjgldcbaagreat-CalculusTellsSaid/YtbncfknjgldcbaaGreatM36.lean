/- Merged texts: CTopB. -/
import Derived.Test.YtbncfknjgldcbaaGreatM9
/- calculus.Delay and Backlog, of arguments that are not valid. -/
namespace Go.Proofs.YtbncfknjgldcbaaGreat
open Go.RowKit Go.Joins Go.Shelf Go.Sort Num

set_option maxRecDepth 100000 in
set_option maxHeartbeats 2000000 in
theorem delay_bad (A : Option Addr) (cap : Nat) (cs : List (List Bk)) (rn rd ln ld : Int) (h1 : I64 rn) (h2 : I64 rd) (h3 : I64 ln) (h4 : I64 ld) (w : World) (hI : cs.length ≤ 32 → isLR A cs w) (hbad : cs.length ≤ 32 → srvB rn rd ln ld = true → cs.all valC = true → False) :
    Calls Tryz.prog 26 #[.slice A cs.length cap, .agg #[.int .i64 rn, .int .i64 rd, .int .i64 ln, .int .i64 ld]] w fun e w' => e = .returned (ratV (0, 0, 2)) ∧ Below w.heap.size w w' := by
  have hB0 := (((Below.refl w.heap.size w).alloc (Nat.le_refl _) (.cells #[.slice A cs.length cap] 50)).alloc (by simp) (.cells #[.int .i64 rn, .int .i64 rd, .int .i64 ln, .int .i64 ld] 52)).alloc (by simp; omega) (.cells #[.int .i64 0, .int .i64 0] 25)
  have bL := ((BoxN.new w 50 #[.slice A cs.length cap]).alloc (.cells #[.int .i64 rn, .int .i64 rd, .int .i64 ln, .int .i64 ld] 52)).alloc (.cells #[.int .i64 0, .int .i64 0] 25)
  have bS := (BoxN.new (w.alloc (.cells #[.slice A cs.length cap] 50)) 52 #[.int .i64 rn, .int .i64 rd, .int .i64 ln, .int .i64 ld]).alloc (.cells #[.int .i64 0, .int .i64 0] 25)
  rw [World.size_alloc] at bS
  have bR := BoxN.new ((w.alloc (.cells #[.slice A cs.length cap] 50)).alloc (.cells #[.int .i64 rn, .int .i64 rd, .int .i64 ln, .int .i64 ld] 52)) 25 #[.int .i64 0, .int .i64 0]
  rw [World.size_alloc, World.size_alloc] at bR
  have HP := Lib.hid (prep_bad A cap cs rn rd ln ld h1 h2 h3 h4 _ (fun h => cl_isLR A cs w _ (hI h) hB0) hbad)
  have l0 := bL.cell 0
  have s0 := bS.cell 0
  have s1 := bS.cell 1
  have s2 := bS.cell 2
  have s3 := bS.cell 3
  clear hI hbad
  go_enter Tryz.func26, Tryz.ntmps26
  go_wp2_with fail
  (with_reducible refine (HP.out).mono ?_); rintro _ w1 ⟨rfl, hb1⟩
  have bR1 := bR.below hb1 bR.lt
  have hB := hB0.trans (hb1.mono hB0.size)
  have r0 := bR1.cell 0
  have r1 := bR1.cell 1
  have f0 := bR1.frozen 0
  have f1 := bR1.frozen 1
  have kR := bR1.lt
  clear hb1 bL bS bR l0 s0 s1 s2 s3
  go_wp2
  refine bodyPost_ret (v := ratV (0, 0, 2)) (by simp [results, Tryz.results26, go_sem, ratV, r0, r1]) rfl ⟨rfl, ?_⟩
  (have hBs := hB.size; (try simp only [World.size_alloc] at hBs); repeat' (first | (with_reducible exact hB) | (with_reducible exact hBs) | (with_reducible refine Below.drew ?_) | (with_reducible refine below_drewN ?_ _) | (with_reducible refine Below.setCell ?_ ?_ _) | (with_reducible refine Below.alloc ?_ ?_ _) | go_size | omega | (simp; omega)))

set_option maxRecDepth 100000 in
set_option maxHeartbeats 2000000 in
theorem back_bad (A : Option Addr) (cap : Nat) (cs : List (List Bk)) (rn rd ln ld : Int) (h1 : I64 rn) (h2 : I64 rd) (h3 : I64 ln) (h4 : I64 ld) (w : World) (hI : cs.length ≤ 32 → isLR A cs w) (hbad : cs.length ≤ 32 → srvB rn rd ln ld = true → cs.all valC = true → False) :
    Calls Tryz.prog 28 #[.slice A cs.length cap, .agg #[.int .i64 rn, .int .i64 rd, .int .i64 ln, .int .i64 ld]] w fun e w' => e = .returned (ratV (0, 0, 2)) ∧ Below w.heap.size w w' := by
  have hB0 := (((Below.refl w.heap.size w).alloc (Nat.le_refl _) (.cells #[.slice A cs.length cap] 50)).alloc (by simp) (.cells #[.int .i64 rn, .int .i64 rd, .int .i64 ln, .int .i64 ld] 52)).alloc (by simp; omega) (.cells #[.int .i64 0, .int .i64 0] 25)
  have bL := ((BoxN.new w 50 #[.slice A cs.length cap]).alloc (.cells #[.int .i64 rn, .int .i64 rd, .int .i64 ln, .int .i64 ld] 52)).alloc (.cells #[.int .i64 0, .int .i64 0] 25)
  have bS := (BoxN.new (w.alloc (.cells #[.slice A cs.length cap] 50)) 52 #[.int .i64 rn, .int .i64 rd, .int .i64 ln, .int .i64 ld]).alloc (.cells #[.int .i64 0, .int .i64 0] 25)
  rw [World.size_alloc] at bS
  have bR := BoxN.new ((w.alloc (.cells #[.slice A cs.length cap] 50)).alloc (.cells #[.int .i64 rn, .int .i64 rd, .int .i64 ln, .int .i64 ld] 52)) 25 #[.int .i64 0, .int .i64 0]
  rw [World.size_alloc, World.size_alloc] at bR
  have HP := Lib.hid (prep_bad A cap cs rn rd ln ld h1 h2 h3 h4 _ (fun h => cl_isLR A cs w _ (hI h) hB0) hbad)
  have l0 := bL.cell 0
  have s0 := bS.cell 0
  have s1 := bS.cell 1
  have s2 := bS.cell 2
  have s3 := bS.cell 3
  clear hI hbad
  go_enter Tryz.func28, Tryz.ntmps28
  go_wp2_with fail
  (with_reducible refine (HP.out).mono ?_); rintro _ w1 ⟨rfl, hb1⟩
  have bR1 := bR.below hb1 bR.lt
  have hB := hB0.trans (hb1.mono hB0.size)
  have r0 := bR1.cell 0
  have r1 := bR1.cell 1
  have f0 := bR1.frozen 0
  have f1 := bR1.frozen 1
  have kR := bR1.lt
  clear hb1 bL bS bR l0 s0 s1 s2 s3
  go_wp2
  refine bodyPost_ret (v := ratV (0, 0, 2)) (by simp [results, Tryz.results28, go_sem, ratV, r0, r1]) rfl ⟨rfl, ?_⟩
  (have hBs := hB.size; (try simp only [World.size_alloc] at hBs); repeat' (first | (with_reducible exact hB) | (with_reducible exact hBs) | (with_reducible refine Below.drew ?_) | (with_reducible refine below_drewN ?_ _) | (with_reducible refine Below.setCell ?_ ?_ _) | (with_reducible refine Below.alloc ?_ ?_ _) | go_size | omega | (simp; omega)))

end Go.Proofs.YtbncfknjgldcbaaGreat
