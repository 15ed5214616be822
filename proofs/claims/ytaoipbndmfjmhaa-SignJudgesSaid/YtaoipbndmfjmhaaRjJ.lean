/- SignJudges: its walk. -/
import Derived.Test.YtaoipbndmfjmhaaRjI
import Derived.Test.YtaoipbndmfjmhaaAwake
import Derived.Test.YtaoipbndmfjmhaaCls
import Derived.Test.YtaoipbndmfjmhaaSFrame
namespace Go.Proofs.Ytaoipbndmfjmhaa
open Go.RowKit Go.Joins
open Go.BigFrame
namespace Jg
set_option maxRecDepth 100000 in
set_option maxHeartbeats 8000000 in
theorem law (root d : BitVec 64) (h q : Int) (f : Nat → BitVec 64) (A : Option Addr) (cap : Nat) (l : List (BitVec 64)) (B : Option Addr) (cb : Nat) (bs : List (BitVec 8)) (hlen : l.length ≤ 9223372036854775807) (hmlen : bs.length ≤ 9223372036854775807) (hcb : bs.length ≤ cb) (w : World) (hQ : isQ A l w) (hBs : isB B bs w) :
    Calls Try.prog 4 #[U64 root, .int .i64 h, U64 d, .agg (sgA q f (.slice A l.length cap)), .slice B bs.length cb] w fun e w' => e = .returned (.bool true) ∧ Below w.heap.size w w' := by
  have HW : Hid (∀ W : World, _) := fun W => awake_true W
  have c19T : (sgA q f (.slice A l.length cap))[19]? = some (.slice A l.length cap) := sgA_path _ _ _
  have hTi : (Try.prog.info? 34).map (·.size) = some (sgA q f (.slice A l.length cap)).size := by rw [sgA_size]; exact info_sig
  obtain ⟨n, hn⟩ : ∃ n, l.length = n := ⟨_, rfl⟩
  obtain ⟨m, hm⟩ : ∃ m, bs.length = m := ⟨_, rfl⟩
  rw [hn] at c19T hlen hTi ⊢
  rw [hm] at hmlen ⊢
  have Hn := Lib.hid hn
  have Hm := Lib.hid hm
  have Hcb := Lib.hid hcb
  obtain ⟨T, hT⟩ : ∃ T, sgA q f (.slice A n cap) = T := ⟨_, rfl⟩
  rw [hT] at c19T hTi ⊢
  have HT := Lib.hid hT
  clear hn hm hT hcb
  have bT := BoxN.new w 34 T
  have hB : Below w.heap.size w (w.alloc (.cells T 34)) := (Below.refl _ w).alloc (Nat.le_refl _) _
  have hQ1 := hQ.keep hB
  have hBs1 := hBs.keep hB
  have k19 := bT.cell 19
  rw [c19T] at k19
  clear c19T hQ hBs
  go_enter Try.func4, Try.ntmps4
  by_cases hbig : 10 < n
  · have hd : decide ((10 : Int) < (n : Int)) = true := decide_eq_true (by omega)
    go_wp2_with fail
    (with_reducible refine (HW.out _).mono ?_); rintro e w1 ⟨rfl, hb1⟩
    go_wp2_with fail
    go_ret
    exact ⟨rfl, hB.trans (hb1.mono hB.size)⟩
  have hd : decide ((10 : Int) < (n : Int)) = false := decide_eq_false (by omega)
  by_cases hbig2 : 300 < m
  · have hd2 : decide ((300 : Int) < (m : Int)) = true := decide_eq_true (by omega)
    go_wp2_with fail
    (with_reducible refine (HW.out _).mono ?_); rintro e w1 ⟨rfl, hb1⟩
    go_wp2_with fail
    go_ret
    exact ⟨rfl, hB.trans (hb1.mono hB.size)⟩
  have hd2 : decide ((300 : Int) < (m : Int)) = false := decide_eq_false (by omega)
  obtain ⟨D, EB, ce, hD, fE, fR⟩ := encodes q f l n Hn.out
  obtain ⟨X, PV, cd, fX, dP, dR, dS⟩ := decodes B cb bs Hcb.out (by rw [Hm.out]; omega)
  obtain ⟨v, vP, vR⟩ := verifies root d h q f l n Hn.out
  rw [Hm.out] at dP dR
  have HE := Lib.hid (fE A cap)
  have HR := Lib.hid (fR A cap)
  have HVP := Lib.hid (vP A cap)
  have HVR := Lib.hid (vR A cap)
  unfold Hid at HE HR HVP HVR
  rw [HT.out] at HE HR HVP HVR
  replace HE := Lib.hid HE
  replace HR := Lib.hid HR
  replace HVP := Lib.hid HVP
  replace HVR := Lib.hid HVR
  have HDP := Lib.hid dP
  have HDR := Lib.hid dR
  have HDS := Lib.hid dS
  have HX := Lib.hid fX
  have HDl := Lib.hid hD
  clear fE fR vP vR dP dR dS fX hD hbig hbig2 hlen hmlen HT Hn Hm Hcb
  have hzs := zero_sig
  obtain ⟨Z, hZ⟩ : ∃ Z, (#[.int .i64 0, .int .u64 0, .int .u64 0, .int .u64 0, .int .u64 0, .int .u64 0, .int .u64 0, .int .u64 0, .int .u64 0, .int .u64 0, .int .u64 0, .int .u64 0, .int .u64 0, .int .u64 0, .int .u64 0, .int .u64 0, .int .u64 0, .int .u64 0, .int .u64 0, .slice none 0 0] : Array Value) = Z := ⟨_, rfl⟩
  have hZs : Z.size = 20 := by rw [← hZ]; rfl
  rw [hZ] at hzs
  have fXs : Hid (∀ G c, (Try.prog.info? 34).map (·.size) = some (X G c).size) := fun G c => by rw [(HX.out G c).1]; exact info_sig
  have FZ : Hid (∀ G c, Z.size = (X G c).size) := fun G c => by rw [(HX.out G c).1]; exact hZs
  clear hZ hZs
  have hv : (v == v) = true := by simp
  have hce : (ce == ce) = true := by simp
  have hcd : (cd == cd) = true := by simp
  have hgl := bT.lt
  have bT' : (w.alloc (.cells T 34)).heap[w.heap.size]? = some (.cells T 34 (0, 0)) := bT
  go_wp2_with (refine wpList_load_row rfl 34 _ rfl w.heap.size rfl _ T _ _ bT' Try.underlying34 rfl hTi ?_)
  (with_reducible refine (HE.out _ hQ1).mono ?_); rintro e w2 ⟨G1, c1, rfl, h1, hb1⟩
  replace bT := bT.keep hb1
  replace hQ1 := hQ1.keep hb1
  replace hBs1 := hBs1.keep hb1
  replace hB := hB.trans (hb1.mono hB.size)
  clear hb1 bT' k19
  have bT' : w2.heap[w.heap.size]? = some (.cells T 34 (0, 0)) := bT
  go_wp2_with (refine wpList_load_row rfl 34 _ rfl w.heap.size rfl _ T _ _ bT' Try.underlying34 rfl hTi ?_)
  (with_reducible refine (HR.out _ hQ1).mono ?_); rintro e w3 ⟨G2, c2, rfl, h2, hb1⟩
  replace bT := bT.keep hb1
  replace hQ1 := hQ1.keep hb1
  replace hBs1 := hBs1.keep hb1
  replace h1 := h1.keep hb1
  replace hB := hB.trans (hb1.mono hB.size)
  clear hb1 bT'
  go_wp2_with fail
  (with_reducible refine (HDP.out _ hBs1).mono ?_); rintro e w4 ⟨G3, c3, rfl, h3, hb1⟩
  replace bT := bT.keep hb1
  replace hQ1 := hQ1.keep hb1
  replace hBs1 := hBs1.keep hb1
  replace h1 := h1.keep hb1
  replace h2 := h2.keep hb1
  replace hB := hB.trans (hb1.mono hB.size)
  clear hb1
  obtain ⟨U, hU⟩ : ∃ U, X G3 c3 = U := ⟨_, rfl⟩
  have HU := Lib.hid hU
  have hUo := (HX.out G3 c3).2
  have hUi := fXs.out G3 c3
  have hUz := FZ.out G3 c3
  rw [hU] at hUo hUi hUz ⊢
  clear hU
  have bN := BoxN.new w4 34 Z
  have bU : BoxN ((w4.alloc (.cells Z 34)).setRow w4.heap.size U) w4.heap.size 34 U := bN.setRow _
  have hBy : Below w4.heap.size w4 ((w4.alloc (.cells Z 34)).setRow w4.heap.size U) := below_setRow ((Below.refl _ w4).alloc (Nat.le_refl _) _) (Nat.le_refl _) U
  replace bT := bT.keep hBy
  replace hQ1 := hQ1.keep hBy
  replace hBs1 := hBs1.keep hBy
  replace h1 := h1.keep hBy
  replace h2 := h2.keep hBy
  replace h3 := h3.keep hBy
  replace hB := hB.trans (hBy.mono hB.size)
  go_wp2_with (refine wpList_store_rowTo rfl 34 _ _ rfl rfl w4.heap.size U rfl rfl _ Z bN hUi hUz hUo ?_)
  clear bN hBy
  generalize (w4.alloc (.cells Z 34)).setRow w4.heap.size U = v4 at bU bT hQ1 hBs1 h1 h2 h3 hB ⊢
  generalize w4.heap.size = g1 at bU ⊢
  (with_reducible refine (HDR.out _ hBs1).mono ?_); rintro e w5 ⟨G4, c4, rfl, h4, hb1⟩
  replace bT := bT.keep hb1
  replace bU := bU.keep hb1
  replace hQ1 := hQ1.keep hb1
  replace h1 := h1.keep hb1
  replace h2 := h2.keep hb1
  replace h3 := h3.keep hb1
  replace hB := hB.trans (hb1.mono hB.size)
  clear hb1 hBs1
  obtain ⟨Y, hY⟩ : ∃ Y, X G4 c4 = Y := ⟨_, rfl⟩
  have HY := Lib.hid hY
  have hYo := (HX.out G4 c4).2
  have hYi := fXs.out G4 c4
  have hYz := FZ.out G4 c4
  rw [hY] at hYo hYi hYz ⊢
  clear hY
  have bN := BoxN.new w5 34 Z
  have bY : BoxN ((w5.alloc (.cells Z 34)).setRow w5.heap.size Y) w5.heap.size 34 Y := bN.setRow _
  have hBy : Below w5.heap.size w5 ((w5.alloc (.cells Z 34)).setRow w5.heap.size Y) := below_setRow ((Below.refl _ w5).alloc (Nat.le_refl _) _) (Nat.le_refl _) Y
  replace bT := bT.keep hBy
  replace bU := bU.keep hBy
  replace hQ1 := hQ1.keep hBy
  replace h1 := h1.keep hBy
  replace h2 := h2.keep hBy
  replace h3 := h3.keep hBy
  replace h4 := h4.keep hBy
  replace hB := hB.trans (hBy.mono hB.size)
  go_wp2_with (refine wpList_store_rowTo rfl 34 _ _ rfl rfl w5.heap.size Y rfl rfl _ Z bN hYi hYz hYo ?_)
  clear bN hBy
  generalize (w5.alloc (.cells Z 34)).setRow w5.heap.size Y = v5 at bU bY bT hQ1 h1 h2 h3 h4 hB ⊢
  generalize w5.heap.size = g2 at bY ⊢
  have LT : ∀ W, (∃ s : Wd (Gr v5), W = s.val) → W.heap[w.heap.size]? = some (.cells T 34 (0, 0)) := by rintro _ ⟨s, rfl⟩; exact bT.keep s.ok
  have LU : ∀ W, (∃ s : Wd (Gr v5), W = s.val) → W.heap[g1]? = some (.cells U 34 (0, 0)) := by rintro _ ⟨s, rfl⟩; exact bU.keep s.ok
  have LY : ∀ W, (∃ s : Wd (Gr v5), W = s.val) → W.heap[g2]? = some (.cells Y 34 (0, 0)) := by rintro _ ⟨s, rfl⟩; exact bY.keep s.ok
  replace LT := Lib.hid LT
  replace LU := Lib.hid LU
  replace LY := Lib.hid LY
  have GV : Hid (∀ s : Wd (Gr v5), _) := fun s => HVP.out s.val (hQ1.keep s.ok)
  have GR : Hid (∀ s : Wd (Gr v5), _) := fun s => HVR.out s.val (hQ1.keep s.ok)
  have GS : Hid (∀ s : Wd (Gr v5), Calls Try.prog 20 #[.agg U, .agg Y] s.val fun e w' => e = .returned (.bool true) ∧ Below s.val.heap.size s.val w') := fun s => by
    have := HDS.out G3 c3 G4 c4 s.val (h3.keep s.ok) (h4.keep s.ok)
    rwa [HU.out, HY.out] at this
  have GW : Hid (∀ s : Wd (Gr v5), _) := fun s => HW.out s.val
  obtain ⟨S, hS⟩ : ∃ S, bstr EB = S := ⟨_, rfl⟩
  have hs1 : ∀ s : Wd (Gr v5), (convert 42 9 (.slice G1 D c1)).run Try.prog s.val = .ok (.string S) s.val := fun s => by
    have := str_run c1 (isB.keep h1 s.ok)
    rwa [HDl.out, hS] at this
  have hs2 : ∀ s : Wd (Gr v5), (convert 42 9 (.slice G2 D c2)).run Try.prog s.val = .ok (.string S) s.val := fun s => by
    have := str_run c2 (isB.keep h2 s.ok)
    rwa [HDl.out, hS] at this
  have hSS : (S.toList == S.toList) = true := by simp
  have hcl : Hid (∀ W W' : World, Gr v5 W → Below W.heap.size W W' → Gr v5 W') := Gr.close
  haveI : Nonempty (Wd (Gr v5)) := ⟨⟨v5, Below.refl _ _⟩⟩
  clear HE HR HVP HVR HDP HDR HDS HX hUo hUz hYo hYz hS HU HY h3 h4 bT bU bY hgl hzs h1 h2
  refine wp_region_cls (Gr v5) (by kernel_rfl) (by kernel_rfl) (Gr.start v5) ?_
  repeat (first
    | (refine wpQuiet_want (by kernel_rfl) (fun K hK => ?_); first | (refine quiet_load_row 34 _ rfl w.heap.size rfl _ T _ _ LT.out Try.underlying34 rfl hTi ?_) | (refine quiet_load_row 34 _ rfl g1 rfl _ U _ _ LU.out Try.underlying34 rfl hUi ?_) | (refine quiet_load_row 34 _ rfl g2 rfl _ Y _ _ LY.out Try.underlying34 rfl hYi ?_)
       go_simp
       refine hK _ ?_; clear hK K)
    | go_big_quiet_step (first
      | (go_at_call 27; with_reducible exact Calls.cls hcl.out (GV.out _))
      | (go_at_call 28; with_reducible exact Calls.cls hcl.out (GR.out _))
      | (go_at_call 20; with_reducible exact Calls.cls hcl.out (GS.out _))
      | (go_at_call 10; with_reducible exact Calls.cls hcl.out (GW.out _))))
  refine wpQuiet_nil ?_
  intro _ hw'
  obtain ⟨s0, rfl⟩ := hw'
  replace hB := Below.trans hB (Below.mono s0.ok hB.size)
  generalize s0.val = w9 at hB ⊢
  go_wp2_with fail
  go_ret
  exact ⟨rfl, hB⟩
theorem walk (root ht d q : Int) (f : Nat → BitVec 64) (A : Option Addr) (cap : Nat) (l : List (BitVec 64)) (B : Option Addr) (cb : Nat) (bs : List (BitVec 8)) (w : World) (hr0 : 0 ≤ root) (hr1 : root ≤ 18446744073709551615) (_ : -9223372036854775808 ≤ ht) (_ : ht ≤ 9223372036854775807) (hd0 : 0 ≤ d) (hd1 : d ≤ 18446744073709551615) (hl : DataQ w A cap l) (hb : Data w B cb bs) :
    Calls Try.prog 4 #[.int .u64 root, .int .i64 ht, .int .u64 d, .agg (sgA q f (.slice A l.length cap)), .slice B bs.length cb] w fun r w' => r = .returned (.bool true) ∧ Below w.heap.size w w' := by
  obtain ⟨root, rfl⟩ := int_bv (n := 64) hr0 (by omega)
  obtain ⟨d, rfl⟩ := int_bv (n := 64) hd0 (by omega)
  exact law root d ht q f A cap l B cb bs (Nat.le_trans hl.len hl.cap) (Nat.le_trans hb.len hb.cap) hb.len w hl.row hb.row
end Jg
end Go.Proofs.Ytaoipbndmfjmhaa
