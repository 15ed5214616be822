/- The contract of above. -/
import Derived.Test.YtaoipbndmfjmhaaKey
namespace Go.Proofs.Ytaoipbndmfjmhaa
open Go.RowKit Go.Joins

theorem wrapI {x : Int} (h0 : 0 ≤ x) (h1 : x < 9223372036854775808) : IntKind.i64.wrap x = x := by
  have h2 : x % 18446744073709551616 = x := Int.emod_eq_of_lt h0 (by omega)
  unfold IntKind.wrap
  simp [IntKind.signed, IntKind.bits, h2]
  omega
theorem infoQ : (Try.prog.info? 22).map (fun i => (i.zero, i.size, i.bytes)) = some (some (.int .u64 0), 1, 8) := by kernel_rfl
theorem makeW (n : Nat) (hn : n ≤ 1000) (w : World) : (Instr.makeSlice 32 (.int .i64 n) (.int .i64 n)).run Try.prog w = .ok (.slice (some ⟨w.heap.size, 0, none⟩) n n) (w.alloc (.cells (List.replicate n (Value.int .u64 0)).toArray 22)) := by
  obtain ⟨i0, hi, hz0, hz1, hz2⟩ := info_parts infoQ
  have h := run_makeSlice (P := Try.prog) w 32 22 i0 _ Try.underlying32 hi hz0 .i64 .i64 n n (by omega) (by omega) (by rw [hz1]; omega) (by rw [hz2]; omega) (by omega)
  rw [hz1, Int.toNat_natCast, Nat.mul_one] at h
  rw [h]
  have e : madeCells (Value.int .u64 0).cells n = (List.replicate n (Value.int .u64 0)).toArray := by
    apply Array.toList_inj.1
    exact toList_madeCells_one _ _
  rw [e]
/-- A row of words. -/
def rowQ (l : List (BitVec 64)) : Array Value := (l.map U64).toArray
theorem rowQ_size (l : List (BitVec 64)) : (rowQ l).size = l.length := by simp [rowQ]
theorem rowQ_get (l : List (BitVec 64)) (k : Nat) (z : BitVec 64) (h : l[k]? = some z) : (rowQ l)[k]? = some (U64 z) := by simp [rowQ, h]
theorem parQ_full (n : Nat) (F : Nat → BitVec 64) : parV n (fun i => U64 (F i)) (.int .u64 0) n = rowQ (wds n F) := by
  rw [parV_full]; unfold rowQ wds; rw [List.map_map]; rfl

set_option maxRecDepth 100000 in
set_option maxHeartbeats 2000000 in
theorem above_any (A : Option Addr) (cap : Nat) (l : List (BitVec 64)) (m : Nat) (hlen : l.length = 2 * m) (hm : m ≤ 100) (w : World) (hl : isQ A l w) :
    Calls Try.prog 61 #[.slice A (2 * m : Nat) cap] w fun e w' => e = .returned (.slice (some ⟨w.heap.size, 0, none⟩) m m) ∧ BoxN w' w.heap.size 22 (rowQ (up l)) ∧ Below w.heap.size w w' := by
  have hmk := makeW m (by omega) w
  have hup : up l = wds m fun i => pr (l.getD (2 * i) 0#64) (l.getD (2 * i + 1) 0#64) := by unfold up; rw [hlen, show 2 * m / 2 = m by omega]
  obtain ⟨F, hF⟩ : ∃ F : Nat → BitVec 64, (fun i => pr (l.getD (2 * i) 0#64) (l.getD (2 * i + 1) 0#64)) = F := ⟨_, rfl⟩
  have HF : Hid (∀ i, F i = pr (l.getD (2 * i) 0#64) (l.getD (2 * i + 1) 0#64)) := fun i => (congrFun hF i).symm
  rw [hF] at hup
  rw [hup]
  clear hF hup
  have HP : Hid (∀ (a b : BitVec 64) (W : World), Calls Try.prog 50 #[U64 a, U64 b] W fun e w' => e = .returned (U64 (pr a b)) ∧ Below W.heap.size W w') := fun a b W => pair_any a b W
  rw [← parV_zero m (fun i => U64 (F i)) (.int .u64 0)] at hmk
  obtain ⟨R, hR⟩ : ∃ R, parV m (fun i => U64 (F i)) (.int .u64 0) = R := ⟨_, rfl⟩
  rw [hR] at hmk
  have b0 : BoxN (w.alloc (.cells (R 0) 22)) w.heap.size 22 (R 0) := BoxN.new w _ _
  have hB : Below w.heap.size w (w.alloc (.cells (R 0) 22)) := (Below.refl _ w).alloc (Nat.le_refl _) _
  have HR := Lib.hid hR
  clear hR
  obtain ⟨n2, hn2⟩ : ∃ n2, 2 * m = n2 := ⟨_, rfl⟩
  have ediv : ((n2 : Nat) : Int) / 2 = (m : Int) := by omega
  rw [hn2] at hlen ⊢
  go_enter Try.func61, Try.ntmps61
  go_wp2_with fail
  clear hmk
  generalize w.alloc (.cells (R 0) 22) = W0 at b0 hB ⊢
  obtain ⟨g, hg⟩ : ∃ g, w.heap.size = g := ⟨_, rfl⟩
  rw [hg] at b0 hB ⊢
  have HG := Lib.hid hg
  clear hg
  go_loopw [11] (fun i wr => ∃ k : Nat, k ≤ m ∧ i = .int .i64 k ∧ BoxN wr g 22 (R k) ∧ Below g w wr)
    (fun i _ => (m - intOf i).toNat)
  case atStart => exact ⟨0, by omega, rfl, b0, hB⟩
  case round =>
    clear b0 hB
    obtain ⟨k, hk, rfl, b0, hB⟩ := hrel
    by_cases hlt : k < m
    · have hd : decide ((k : Int) < (m : Int)) = true := by simp; omega
      obtain ⟨b, off, rfl, hbl, hr⟩ := hl (by intro h; rw [h] at hlen; simp at hlen; omega)
      obtain ⟨k2, hk2⟩ : ∃ k2, 2 * k = k2 := ⟨_, rfl⟩
      obtain ⟨k3, hk3⟩ : ∃ k3, k2 + 1 = k3 := ⟨_, rfl⟩
      have hg2 : l[k2]? = some (l[k2]'(by omega)) := List.getElem?_eq_getElem _
      have hg3 : l[k3]? = some (l[k3]'(by omega)) := List.getElem?_eq_getElem _
      have hFk : Hid (F k = pr (l[k2]'(by omega)) (l[k3]'(by omega))) := by
        unfold Hid; rw [HF.out, List.getD_eq_getElem?_getD, List.getD_eq_getElem?_getD, hk2, hk3, hg2, hg3]; rfl
      have hgb : b < g := by rw [← HG.out]; exact hbl
      have c2 := (hB.cell (p := ⟨b, off + k2, none⟩) hgb).trans (hr k2 _ hg2)
      have c3 := (hB.cell (p := ⟨b, off + k3, none⟩) hgb).trans (hr k3 _ hg3)
      have HPk := Lib.hid (HP.out (l[k2]'(by omega)) (l[k3]'(by omega)))
      rw [← hFk.out] at HPk
      clear hg2 hg3 hr hl hFk
      generalize l[k2]'(by omega) = x2 at *
      generalize l[k3]'(by omega) = x3 at *
      have hs : Hid ((R k).setIfInBounds k (U64 (F k)) = R (k + 1)) := by
        unfold Hid; rw [← HR.out]; exact parV_set m (fun i => U64 (F i)) _ k hlt
      have hcell : Hid (∀ W, BoxN W g 22 (R k) → W.cell? ⟨g, k, none⟩ = some (.int .u64 0)) := fun W h => by
        rw [h.cell k, ← HR.out, parV_get m _ _ k k hlt, if_neg (Nat.lt_irrefl k)]
      generalize F k = y at *
      have e2 : (2 : Int) * (k : Int) = (k2 : Int) := by omega
      have e3 : (k2 : Int) + 1 = (k3 : Int) := by omega
      have w2 : IntKind.i64.wrap (k2 : Int) = (k2 : Int) := wrapI (by omega) (by omega)
      have w3 : IntKind.i64.wrap (k3 : Int) = (k3 : Int) := wrapI (by omega) (by omega)
      have hk2b : k2 < n2 := by omega
      have hk3b : k3 < n2 := by omega
      have hn2b : n2 ≤ 200 := by omega
      have hge : g ≤ wr.heap.size := by have := hB.size; rw [HG.out] at this; exact this
      have c0 := hcell.out _ b0
      have f0 := b0.frozen k
      have hbl0 := b0.lt
      have b0d := BoxN.drew b0
      have hBd : Below g w wr.drew := hB.drew
      go_upto_region 5 with fail
      clear c0 f0 hbl0 b0 hB
      go_region_with (go_at_call 50; (with_reducible refine (HPk.out _).mono ?_); rintro e w1 ⟨rfl, hb⟩; have b1 := BoxN.keep b0d hb; have c1 := hcell.out _ b1; have f1 := b1.frozen k; have hl1 := b1.lt; have k1 := Lib.hid (b1.set1 k (U64 y)); have kB := Lib.hid ((hBd.trans (hb.mono (by simpa using hge))).setCell (p := ⟨g, k, none⟩) (Nat.le_refl _) (U64 y)); clear b1 hb)
      all_goals
        go_wp2_with fail
        go_roundw
        case rel => exact ⟨k + 1, by omega, by go_num, by rw [← hs.out]; exact k1.out, kB.out⟩
        case measure => simp [intOf]; omega
    · obtain rfl : k = m := by omega
      have hf : Hid (R k = rowQ (wds k F)) := by unfold Hid; rw [← HR.out]; exact parQ_full k F
      go_wp2_with fail
      go_ret
      exact ⟨by rw [HG.out]; rfl, by rw [HG.out, ← hf.out]; exact b0, by rw [HG.out]; exact hB⟩
end Go.Proofs.Ytaoipbndmfjmhaa
