/- SignNil returns true. -/
import Derived.Test.YtaoipbndmfjmhaaAwake
import Derived.Test.YtaoipbndmfjmhaaSame
import Derived.Test.YtaoipbndmfjmhaaSigner
import Derived.Test.YtaoipbndmfjmhaaFrame
namespace Go.Proofs.Ytaoipbndmfjmhaa
open Go.RowKit Go.Joins
namespace Nil

theorem zero_sg : ∀ w : World, (zeroValue 63).run Try.prog w = .ok (.agg #[.bool false, .int .u64 0, .int .i64 0, .int .i64 0]) w := fun _ => by kernel_rfl
theorem same_zero (w : World) : Calls Try.prog 20 #[.agg #[.int .i64 0, .int .u64 0, .int .u64 0, .int .u64 0, .int .u64 0, .int .u64 0, .int .u64 0, .int .u64 0, .int .u64 0, .int .u64 0, .int .u64 0, .int .u64 0, .int .u64 0, .int .u64 0, .int .u64 0, .int .u64 0, .int .u64 0, .int .u64 0, .int .u64 0, .slice none 0 0], .agg #[.int .i64 0, .int .u64 0, .int .u64 0, .int .u64 0, .int .u64 0, .int .u64 0, .int .u64 0, .int .u64 0, .int .u64 0, .int .u64 0, .int .u64 0, .int .u64 0, .int .u64 0, .int .u64 0, .int .u64 0, .int .u64 0, .int .u64 0, .int .u64 0, .int .u64 0, .slice none 0 0]] w fun e w' => e = .returned (.bool true) ∧ Below w.heap.size w w' := by
  have h := same_any 0 0 (fun _ => 0#64) (fun _ => 0#64) none none 0 0 [] [] (by simp) w (isQ.nil _ _) (isQ.nil _ _)
  rw [show sameB 0 (fun _ => 0#64) [] 0 (fun _ => 0#64) [] = true by simp [sameB]] at h
  exact h

set_option maxRecDepth 100000 in
set_option maxHeartbeats 8000000 in
theorem law (d : BitVec 64) (ht : Int) (hlo : -9223372036854775808 ≤ ht) (hhi : ht ≤ 9223372036854775807) (w : World) :
    Calls Try.prog 9 #[U64 d, .int .i64 ht] w fun r w' => r = .returned (.bool true) ∧ Below w.heap.size w w' := by
  have HSg : Hid (∀ (p : Value) (W : World), NoS p W → _) := fun p W hp => msign_no p d W hp
  have HLf : Hid (∀ (p : Value) (W : World), NoS p W → _) := fun p W hp => left_no p W hp
  have HRt : Hid (∀ (p : Value) (W : World), NoS p W → _) := fun p W hp => mroot_no p W hp
  have HSm : Hid (∀ W : World, _) := fun W => same_zero W
  have HAw : Hid (∀ W : World, _) := fun W => awake_true W
  have HNb : Hid (∀ (n : Int) (W : World), okH n = false → _) := fun n W hn => new_bad d n hn W
  have HRb : Hid (∀ (n : Int) (W : World), okH n = false → _) := fun n W hn => root_bad d n hn W
  have HSb : Hid (∀ (n : Int) (W : World), okK 0 n = false → _) := fun n W hn => sign_bad d d n 0 hn W
  have hzs := zero_sig
  have hzg := zero_sg
  have hi2 : (Try.prog.info? 34).map (·.size) = some (#[.int .i64 0, .int .u64 0, .int .u64 0, .int .u64 0, .int .u64 0, .int .u64 0, .int .u64 0, .int .u64 0, .int .u64 0, .int .u64 0, .int .u64 0, .int .u64 0, .int .u64 0, .int .u64 0, .int .u64 0, .int .u64 0, .int .u64 0, .int .u64 0, .int .u64 0, .slice none 0 0] : Array Value).size := info_sig
  have ho2 : (#[.int .i64 0, .int .u64 0, .int .u64 0, .int .u64 0, .int .u64 0, .int .u64 0, .int .u64 0, .int .u64 0, .int .u64 0, .int .u64 0, .int .u64 0, .int .u64 0, .int .u64 0, .int .u64 0, .int .u64 0, .int .u64 0, .int .u64 0, .int .u64 0, .int .u64 0, .slice none 0 0] : Array Value).all (·.oneCell') = true := by decide +kernel
  obtain ⟨Z, hZ⟩ : ∃ Z, (#[.int .i64 0, .int .u64 0, .int .u64 0, .int .u64 0, .int .u64 0, .int .u64 0, .int .u64 0, .int .u64 0, .int .u64 0, .int .u64 0, .int .u64 0, .int .u64 0, .int .u64 0, .int .u64 0, .int .u64 0, .int .u64 0, .int .u64 0, .int .u64 0, .int .u64 0, .slice none 0 0] : Array Value) = Z := ⟨_, rfl⟩
  rw [hZ] at hzs hi2 ho2 HSg HSm HSb
  clear hZ
  go_enter Try.func9, Try.ntmps9
  go_wp2_with fail
  have bz : BoxN ((w.alloc (.cells #[.bool false, .int .u64 0, .int .i64 0, .int .i64 0] 63)).alloc (.cells #[.pointer none, .pointer (some ⟨w.heap.size, 0, none⟩)] 52)) w.heap.size 63 #[.bool false, .int .u64 0, .int .i64 0, .int .i64 0] := (BoxN.new w _ _).alloc _
  have bs : BoxN ((w.alloc (.cells #[.bool false, .int .u64 0, .int .i64 0, .int .i64 0] 63)).alloc (.cells #[.pointer none, .pointer (some ⟨w.heap.size, 0, none⟩)] 52)) (w.heap.size + 1) 52 #[.pointer none, .pointer (some ⟨w.heap.size, 0, none⟩)] := by
    have := BoxN.new (w.alloc (.cells #[.bool false, .int .u64 0, .int .i64 0, .int .i64 0] 63)) 52 #[.pointer none, .pointer (some ⟨w.heap.size, 0, none⟩)]
    rwa [World.size_alloc] at this
  have hB : Below w.heap.size w ((w.alloc (.cells #[.bool false, .int .u64 0, .int .i64 0, .int .i64 0] 63)).alloc (.cells #[.pointer none, .pointer (some ⟨w.heap.size, 0, none⟩)] 52)) := ((Below.refl _ w).alloc (Nat.le_refl _) _).alloc (by simp) _
  generalize (w.alloc (.cells #[.bool false, .int .u64 0, .int .i64 0, .int .i64 0] 63)).alloc (.cells #[.pointer none, .pointer (some ⟨w.heap.size, 0, none⟩)] 52) = w0 at bz bs hB ⊢
  go_loopw [21] (fun i wr => ∃ k : Nat, k ≤ 2 ∧ i = .int .i64 k ∧ BoxN wr w.heap.size 63 #[.bool false, .int .u64 0, .int .i64 0, .int .i64 0] ∧ BoxN wr (w.heap.size + 1) 52 #[.pointer none, .pointer (some ⟨w.heap.size, 0, none⟩)] ∧ Below w.heap.size w wr)
    (fun i _ => (2 - intOf i).toNat)
  case atStart => exact ⟨0, by omega, rfl, bz, bs, hB⟩
  case round =>
    clear bz bs hB
    obtain ⟨k, hk, rfl, bz, bs, hB⟩ := hrel
    by_cases hlt : k < 2
    · have hd : decide ((k : Int) < 2) = true := by simp; omega
      obtain ⟨p, hcp, hno⟩ : ∃ p, (#[Value.pointer none, .pointer (some ⟨w.heap.size, 0, none⟩)] : Array Value)[k]? = some p ∧ ∀ W, BoxN W w.heap.size 63 #[.bool false, .int .u64 0, .int .i64 0, .int .i64 0] → NoS p W := by
        have h01 : k = 0 ∨ k = 1 := by omega
        rcases h01 with rfl | rfl
        · exact ⟨_, rfl, fun W _ => .inl rfl⟩
        · exact ⟨_, rfl, fun W h => .inr ⟨_, _, _, _, rfl, h⟩⟩
      have cp := bs.cell k
      rw [hcp] at cp
      have HNo := Lib.hid hno
      have hgl := bs.lt
      clear hno hcp
      go_wp2_with fail
      (with_reducible refine (HSg.out _ _ (HNo.out _ bz)).mono ?_); rintro r w1 ⟨rfl, hb1⟩
      replace bz := bz.keep hb1
      replace bs := bs.keep hb1
      replace hB := hB.trans (hb1.mono hB.size)
      clear hb1 cp
      have bY := BoxN.new w1 34 Z
      have bx : BoxN ((w1.alloc (.cells Z 34)).setRow w1.heap.size Z) w1.heap.size 34 Z := bY.setRow _
      have hz1 := hB.size
      have hBy : Below w1.heap.size w1 ((w1.alloc (.cells Z 34)).setRow w1.heap.size Z) := below_setRow ((Below.refl _ w1).alloc (Nat.le_refl _) _) (Nat.le_refl _) Z
      replace bz := bz.keep hBy
      replace bs := bs.keep hBy
      replace hB := hB.trans (hBy.mono hz1)
      have hld := Lib.hid (run_loadVar_row (P := Try.prog) _ _ _ 34 _ (0, 0) _ bx Try.underlying34 rfl hi2)
      go_wp2_with (first | (refine wpList_store_rowTo rfl 34 _ _ rfl rfl w1.heap.size Z rfl rfl _ Z bY hi2 rfl ho2 ?_) | (refine wpList_load_sub (by rfl) 34 _ rfl ⟨w1.heap.size, 0, none⟩ rfl (.agg Z) hld.out ?_))
      (with_reducible refine (HSm.out _).mono ?_); rintro r w2 ⟨rfl, hb2⟩
      replace bz := bz.keep hb2
      replace bs := bs.keep hb2
      replace hB := hB.trans (hb2.mono hB.size)
      clear hb2 bx bY hBy hld
      go_wp2_with fail
      (with_reducible refine (HLf.out _ _ (HNo.out _ bz)).mono ?_); rintro r w3 ⟨rfl, hb3⟩
      replace bz := bz.keep hb3
      replace bs := bs.keep hb3
      replace hB := hB.trans (hb3.mono hB.size)
      clear hb3
      go_wp2_with fail
      (with_reducible refine (HRt.out _ _ (HNo.out _ bz)).mono ?_); rintro r w4 ⟨rfl, hb4⟩
      replace bz := Lib.hid (bz.keep hb4)
      replace bs := Lib.hid (bs.keep hb4)
      replace hB := Lib.hid (hB.trans (hb4.mono hB.size))
      clear hb4
      go_wp2_with fail
      go_roundw
      case rel => exact ⟨k + 1, by omega, by go_num, bz.out, bs.out, hB.out⟩
      case measure => simp [intOf]; omega
    · obtain rfl : k = 2 := by omega
      clear hlt hk bz bs
      have key3 : ht ≤ -1 ∨ (-1 < ht ∧ ht < 7) ∨ 7 ≤ ht := by omega
      rcases key3 with hc | ⟨hc1, hc2⟩ | hc
      all_goals go_wp2_with fail
      all_goals (try (exfalso; omega))
      all_goals
        first
          | (have hc' : ht ≤ -1 := hc
             generalize hWW : wr.alloc (.cells #[.int .i64 ht, .int .i64 7] 3) = W0
             obtain ⟨a, b, ha, hb, hW2⟩ : ∃ a b, okH a = false ∧ okH b = false ∧ wr.alloc (.cells #[.int .i64 a, .int .i64 b] 3) = W0 := ⟨ht, 7, by simp [okH]; omega, by decide, hWW⟩; clear hWW hc hc')
          | (have hc' : 7 ≤ ht := hc
             generalize hWW : wr.alloc (.cells #[.int .i64 (-1), .int .i64 ht] 3) = W0
             obtain ⟨a, b, ha, hb, hW2⟩ : ∃ a b, okH a = false ∧ okH b = false ∧ wr.alloc (.cells #[.int .i64 a, .int .i64 b] 3) = W0 := ⟨-1, ht, by decide, by simp [okH]; omega, hWW⟩; clear hWW hc hc')
          | (generalize hWW : wr.alloc (.cells #[.int .i64 (-1), .int .i64 7] 3) = W0
             obtain ⟨a, b, ha, hb, hW2⟩ : ∃ a b, okH a = false ∧ okH b = false ∧ wr.alloc (.cells #[.int .i64 a, .int .i64 b] 3) = W0 := ⟨-1, 7, by decide, by decide, hWW⟩; clear hWW hc1 hc2)
        have bt : BoxN W0 wr.heap.size 3 #[.int .i64 a, .int .i64 b] := hW2 ▸ BoxN.new wr _ _
        replace hB : Below w.heap.size w W0 := hW2 ▸ hB.alloc (by have := hB.size; omega) _
        clear hW2 hlo hhi
        generalize wr.heap.size = N0 at bt ⊢
        go_loopw [56] (fun i wr => ∃ k : Nat, k ≤ 2 ∧ i = .int .i64 k ∧ BoxN wr N0 3 #[.int .i64 a, .int .i64 b] ∧ Below w.heap.size w wr)
          (fun i _ => (2 - intOf i).toNat)
        case atStart => exact ⟨0, by omega, rfl, bt, hB⟩
        case round =>
          clear bt hB
          obtain ⟨k, hk, rfl, bs, hB⟩ := hrel
          by_cases hlt : k < 2
          · have hd : decide ((k : Int) < 2) = true := by simp; omega
            obtain ⟨n, hcp, hn⟩ : ∃ n, (#[Value.int .i64 a, .int .i64 b] : Array Value)[k]? = some (.int .i64 n) ∧ okH n = false := by
              have h01 : k = 0 ∨ k = 1 := by omega
              rcases h01 with rfl | rfl
              · exact ⟨_, rfl, ha⟩
              · exact ⟨_, rfl, hb⟩
            have cp := bs.cell k
            rw [hcp] at cp
            have hkn : okK 0 n = false := by simp [okK]; simp [okH] at hn; omega
            have HN := Lib.hid hn
            have HK := Lib.hid hkn
            have hgl := bs.lt
            clear hn hkn hcp ha hb
            go_wp2_with fail
            (with_reducible refine (HNb.out _ _ HN.out).mono ?_); rintro r w1 ⟨rfl, hb1⟩
            replace bs := bs.keep hb1
            replace hB := hB.trans (hb1.mono hB.size)
            clear hb1 cp
            go_wp2_with fail
            (with_reducible refine (HRb.out _ _ HN.out).mono ?_); rintro r w2 ⟨rfl, hb2⟩
            replace bs := bs.keep hb2
            replace hB := hB.trans (hb2.mono hB.size)
            clear hb2
            go_wp2_with fail
            (with_reducible refine (HSb.out _ _ HK.out).mono ?_); rintro r w3 ⟨rfl, hb3⟩
            replace bs := bs.keep hb3
            replace hB := hB.trans (hb3.mono hB.size)
            clear hb3
            have bY := BoxN.new w3 34 Z
            have bx : BoxN ((w3.alloc (.cells Z 34)).setRow w3.heap.size Z) w3.heap.size 34 Z := bY.setRow _
            have hz1 := hB.size
            have hBy : Below w3.heap.size w3 ((w3.alloc (.cells Z 34)).setRow w3.heap.size Z) := below_setRow ((Below.refl _ w3).alloc (Nat.le_refl _) _) (Nat.le_refl _) Z
            replace bs := bs.keep hBy
            replace hB := hB.trans (hBy.mono hz1)
            have hld := Lib.hid (run_loadVar_row (P := Try.prog) _ _ _ 34 _ (0, 0) _ bx Try.underlying34 rfl hi2)
            go_wp2_with (first | (refine wpList_store_rowTo rfl 34 _ _ rfl rfl w3.heap.size Z rfl rfl _ Z bY hi2 rfl ho2 ?_) | (refine wpList_load_sub (by rfl) 34 _ rfl ⟨w3.heap.size, 0, none⟩ rfl (.agg Z) hld.out ?_))
            (with_reducible refine (HSm.out _).mono ?_); rintro r w4 ⟨rfl, hb4⟩
            replace bs := Lib.hid (bs.keep hb4)
            replace hB := Lib.hid (hB.trans (hb4.mono hB.size))
            clear hb4 bx bY hBy hld
            go_wp2_with fail
            go_roundw
            case rel =>
              first
                | exact ⟨k + 1, by omega, by go_num, bs.out, hB.out⟩
                | ((repeat apply Exists.intro)
                   refine ⟨?_, rfl⟩
                   exact ⟨k + 1, by omega, by go_num, bs.out, hB.out⟩)
            case measure =>
              first
                | (simp [intOf]; omega)
                | (show (2 - ((k : Int) + 1)).toNat < (2 - (k : Int)).toNat; omega)
          · obtain rfl : k = 2 := by omega
            clear hlt hk bs
            go_wp2_with fail
            (with_reducible refine (HAw.out _).mono ?_); rintro r w1 ⟨rfl, hb1⟩
            replace hB := hB.trans (hb1.mono hB.size)
            clear hb1
            go_wp2_with fail
            go_ret
            exact ⟨rfl, hB⟩

theorem walk (d h : Int) (w : World) (hd0 : 0 ≤ d) (hd1 : d ≤ 18446744073709551615) (hlo : -9223372036854775808 ≤ h) (hhi : h ≤ 9223372036854775807) :
    Calls Try.prog 9 #[.int .u64 d, .int .i64 h] w fun r w' => r = .returned (.bool true) ∧ Below w.heap.size w w' := by
  obtain ⟨d, rfl⟩ := int_bv (n := 64) hd0 (by omega)
  exact law d h hlo hhi w
end Nil
end Go.Proofs.Ytaoipbndmfjmhaa
