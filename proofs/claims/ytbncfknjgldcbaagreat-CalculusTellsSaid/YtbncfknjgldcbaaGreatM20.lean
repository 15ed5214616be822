/- Merged texts: CFlow, CFifoM. -/
import Derived.Test.YtbncfknjgldcbaaGreatM8
import Derived.Test.YtbncfknjgldcbaaGreatM9
/- nacellelaw03.Flow. -/
namespace Go.Proofs.YtbncfknjgldcbaaGreat
open Go.RowKit Go.Joins Go.Shelf Go.Sort Num

/-- The time before the wait of frame k. -/
def flowT (ws : List Int) (gap : Int) : Nat → Int
  | 0 => 0
  | k + 1 => flowT ws gap k + ws.getD k 0 + gap
def flowF (ss ws : List Int) (vl gap : Int) (k : Nat) : Sn := ⟨flowT ws gap k + ws.getD k 0, vl, 1 + (ss.getD k 0) % 72⟩
def flowL (ss ws : List Int) (vl gap : Int) (n : Nat) : List Sn := (List.range n).map (flowF ss ws vl gap)
theorem flowL_succ (ss ws : List Int) (vl gap : Int) (k : Nat) : flowL ss ws vl gap (k + 1) = flowL ss ws vl gap k ++ [flowF ss ws vl gap k] := by unfold flowL; rw [List.range_succ, List.map_append]; rfl
def snsOf (l : List Sn) : List Value := l.flatMap Sn.cells
/-- The slice holds bytes. -/
def isU (A : Option Addr) (zs : List Int) : World → Prop := fun W => zs ≠ [] → ∃ b off, A = some ⟨b, off, none⟩ ∧ b < W.heap.size ∧ ∀ (j : Nat) (z : Int), zs[j]? = some z → W.cell? ⟨b, off + j, none⟩ = some (.int .u8 z)
theorem cl_isU (A : Option Addr) (zs : List Int) : Cl (isU A zs) := fun _ _ h hb hl => by
  obtain ⟨b, off, e, h1, h2⟩ := h hl
  exact ⟨b, off, e, Nat.lt_of_lt_of_le h1 hb.size, fun j z hz => (hb.cell (p := ⟨b, _, none⟩) h1).trans (h2 j z hz)⟩
theorem getD_u {zs : List Int} (h : ∀ z ∈ zs, 0 ≤ z ∧ z ≤ 255) (k : Nat) : 0 ≤ zs.getD k 0 ∧ zs.getD k 0 ≤ 255 := by
  rw [List.getD_eq_getElem?_getD]
  cases e : zs[k]? with
  | none => simp
  | some z => exact h z (List.mem_of_getElem? e)
theorem flowT_bd {ws : List Int} (h : ∀ z ∈ ws, 0 ≤ z ∧ z ≤ 255) {gap : Int} (g0 : 0 ≤ gap) (g1 : gap ≤ 65535) : ∀ k : Nat, 0 ≤ flowT ws gap k ∧ flowT ws gap k ≤ 65790 * k
  | 0 => by simp [flowT]
  | k + 1 => by
    have h1 := flowT_bd h g0 g1 k
    have h2 := getD_u h k
    simp only [flowT]
    push_cast
    omega
theorem infoS : (Tryz.prog.info? 85).map (fun i => (i.zero, i.size, i.bytes)) = some (some (.agg #[.int .i64 0, .int .i64 0, .int .i64 0]), 3, 24) := by kernel_rfl

set_option maxRecDepth 100000 in
set_option maxHeartbeats 4000000 in
theorem flow_any (A B : Option Addr) (ca cb : Nat) (ss ws : List Int) (vl gap : Int) (hs : ∀ z ∈ ss, 0 ≤ z ∧ z ≤ 255) (hw : ∀ z ∈ ws, 0 ≤ z ∧ z ≤ 255) (h1 : ss.length ≤ ca) (h2 : ca ≤ 9223372036854775807) (h3 : ws.length ≤ 9223372036854775807) (g0 : 0 ≤ gap) (g1 : gap ≤ 65535) (w : World) (hA : isU A ss w) (hB : isU B ws w) :
    Calls Tryz.prog 39 #[.slice A ss.length ca, .slice B ws.length cb, .int .i64 vl, .int .i64 gap] w fun e w' => ∃ v, e = .returned v ∧ w'.ownsRow w.heap.size 85 3 v (min ss.length 12) (snsOf (flowL ss ws vl gap (min ss.length 12))) ∧ Below w.heap.size w w' := by
  obtain ⟨i0, hi, hz0, hz1, hz2⟩ := info_parts infoS
  have hmn : min (ss.length : Int) 12 = ((min ss.length 12 : Nat) : Int) := by omega
  obtain ⟨n, hn⟩ : ∃ n, min ss.length 12 = n := ⟨_, rfl⟩
  rw [hn] at hmn ⊢
  have hn1 : n ≤ ss.length := by omega
  have hn2 : n ≤ 12 := by omega
  have hn3 : n ≤ ca := by omega
  have hA := Lib.hid hA
  have hB := Lib.hid hB
  have hs := Lib.hid hs
  have hw := Lib.hid hw
  clear hn
  go_enter Tryz.func39, Tryz.ntmps39
  go_wp2_with fail
  go_loopw [9, 10, 19] (fun v tv i wr => ∃ (k : Nat) (t : Int), k ≤ n ∧ i = .int .i64 ↑k ∧ flowT ws gap k = t ∧ tv = .int .i64 t ∧ wr.ownsRow w.heap.size 85 3 v k (snsOf (flowL ss ws vl gap k)) ∧ Below w.heap.size w wr)
    (fun _ _ i _ => n - (intOf i).toNat)
  case atStart => exact ⟨0, 0, Nat.zero_le _, rfl, rfl, rfl, World.ownsRow_nil _ _ _ _, Below.refl _ _⟩
  case round =>
    obtain ⟨k, t, hk, rfl, ht, rfl, hown, hBw⟩ := hrel
    by_cases hlt : k < n
    · have hx : ss[k]? = some (ss[k]'(by omega)) := List.getElem?_eq_getElem (by omega)
      obtain ⟨z, hze⟩ : ∃ z, ss[k]'(by omega) = z := ⟨_, rfl⟩
      rw [hze] at hx
      obtain ⟨b, off, rfl, hb, hr⟩ := hA.out (by intro h; subst h; simp at hx)
      have c0 := (hBw.cell (p := ⟨b, off + k, none⟩) hb).trans (hr k z hx)
      have hbz := Nat.lt_of_lt_of_le hb hBw.size
      obtain ⟨z0, z1⟩ := hs.out z (List.mem_of_getElem? hx)
      have hzd : ss.getD k 0 = z := by rw [List.getD_eq_getElem?_getD, hx]; rfl
      obtain ⟨tb0, tb1⟩ := flowT_bd hw.out g0 g1 k
      rw [ht] at tb0 tb1
      have tb2 : t ≤ 65790 * 12 := by
        have : ((k : Nat) : Int) ≤ 12 := by omega
        omega
      have m0 : 0 ≤ z % 72 := by omega
      have m1 : z % 72 < 72 := by omega
      have Hown := Lib.hid hown
      have HB := Lib.hid hBw
      have hwz := hBw.size
      obtain ⟨d, hd⟩ : ∃ d, ws.getD k 0 = d := ⟨_, rfl⟩
      obtain ⟨e0, e1⟩ := getD_u hw.out k
      rw [hd] at e0 e1
      have hT1 : Hid (flowT ws gap (k + 1) = t + d + gap) := by unfold Hid; simp only [flowT]; rw [ht, hd]
      have hF1 : Hid (snsOf (flowL ss ws vl gap (k + 1)) = snsOf (flowL ss ws vl gap k) ++ [.int .i64 (t + d), .int .i64 vl, .int .i64 (1 + z % 72)]) := by
        unfold Hid
        rw [flowL_succ]
        unfold snsOf
        rw [List.flatMap_append, show flowF ss ws vl gap k = ⟨t + d, vl, 1 + z % 72⟩ by unfold flowF; rw [ht, hd, hzd]]
        simp [Sn.cells]
      have hone : Hid (∀ u ∈ [Value.int .i64 (t + d), .int .i64 vl, .int .i64 (1 + z % 72)], u.oneCell' = true) := by
        intro u hu
        simp only [List.mem_cons, List.not_mem_nil, or_false] at hu
        rcases hu with rfl | rfl | rfl <;> rfl
      have hm1 := Lib.hid (show k + 1 ≤ maxLen by unfold maxLen; omega)
      have hy1 := Lib.hid (show (k + 1) * 24 ≤ 140737488355328 by omega)
      have ht' := Lib.hid ht
      have hd' := Lib.hid hd
      clear hx hze hr hown hBw ht hd hzd
      by_cases hq : k < ws.length
      · have hx : ws[k]? = some ws[k] := List.getElem?_eq_getElem hq
        have hxe : ws[k] = d := by have := hd'.out; rw [List.getD_eq_getElem?_getD, hx] at this; simpa using this
        rw [hxe] at hx
        obtain ⟨b2, off2, rfl, hb2, hr2⟩ := hB.out (by intro h; subst h; simp at hq)
        have c1 := (HB.out.cell (p := ⟨b2, off2 + k, none⟩) hb2).trans (hr2 k d hx)
        clear hx hxe hr2
        go_wp2_with (at_builtin; refine wpList_append_own _ rfl _ _ 61 rfl w.heap.size 85 i0 _ 3 24 Tryz.underlying61 hi hz0 hz1 hz2 rfl (by decide) _ _ _ rfl (Hown.out.alloc _) ⟨wr.heap.size, 0, none⟩ 1 1 [.int .i64 (t + d), .int .i64 vl, .int .i64 (1 + z % 72)] rfl rfl (World.news_of_block (heap_alloc_new wr _)) hone.out hm1.out hy1.out (by simp; omega) ?_; intro v' w' hown' hgrow _)
        have hB5 := Lib.hid ((HB.out.alloc hwz (.cells #[.int .i64 (t + d), .int .i64 vl, .int .i64 (1 + z % 72)] 85)).grown hgrow (by simp; omega) (fun j e => own_block_le Hown.out e))
        have Hown5 := Lib.hid hown'
        clear hown' hgrow
        go_wp2
        go_roundw
        case rel => exact ⟨k + 1, t + d + gap, hlt, by go_num, by rw [hT1.out], rfl, by rw [hF1.out]; exact Hown5.out, hB5.out⟩
        case measure => simp [intOf]; omega
      · have h0 : d = 0 := by have := hd'.out; rw [List.getD_eq_getElem?_getD, List.getElem?_eq_none (by omega)] at this; simpa using this.symm
        have hq' : decide ((k : Int) < ws.length) = false := by simp; omega
        subst h0
        simp only [Int.add_zero] at hone hT1 hF1
        go_wp2_with (at_builtin; refine wpList_append_own _ rfl _ _ 61 rfl w.heap.size 85 i0 _ 3 24 Tryz.underlying61 hi hz0 hz1 hz2 rfl (by decide) _ _ _ rfl (Hown.out.alloc _) ⟨wr.heap.size, 0, none⟩ 1 1 [.int .i64 t, .int .i64 vl, .int .i64 (1 + z % 72)] rfl rfl (World.news_of_block (heap_alloc_new wr _)) hone.out hm1.out hy1.out (by simp; omega) ?_; intro v' w' hown' hgrow _)
        have hB5 := Lib.hid ((HB.out.alloc hwz (.cells #[.int .i64 t, .int .i64 vl, .int .i64 (1 + z % 72)] 85)).grown hgrow (by simp; omega) (fun j e => own_block_le Hown.out e))
        have Hown5 := Lib.hid hown'
        clear hown' hgrow
        go_wp2
        go_roundw
        case rel => exact ⟨k + 1, t + gap, hlt, by go_num, by rw [hT1.out], rfl, by rw [hF1.out]; exact Hown5.out, hB5.out⟩
        case measure => simp [intOf]; omega
    · obtain rfl : k = n := by omega
      have Hown := Lib.hid hown
      clear hown
      go_wp2
      go_ret
      exact ⟨_, rfl, Hown.out, hBw⟩
end Go.Proofs.YtbncfknjgldcbaaGreat
/- What Serve answers for one frame. -/
namespace Go.Proofs.YtbncfknjgldcbaaGreat
open Go.RowKit Go.Joins Go.Shelf Go.Sort Num

theorem serve_get (slow delay : Int) : ∀ {l : List Sn} {e : Int} {k : Nat} {f : Sn}, l[k]? = some f → (serveL slow delay e l)[k]? = some (max (endL slow delay e (l.take k)) (f.t + delay) + f.s * slow)
  | [], _, _, _, h => by simp at h
  | g :: l, e, 0, f, h => by
    simp only [List.getElem?_cons_zero, Option.some.injEq] at h
    subst h
    simp [serveL, endL]
  | g :: l, e, k + 1, f, h => by
    rw [List.getElem?_cons_succ] at h
    simp only [serveL, List.getElem?_cons_succ, List.take_succ_cons, endL]
    exact serve_get slow delay h
/-- What lies behind k frames is the answer for the last of them. -/
theorem end_get (slow delay : Int) {l : List Sn} {e : Int} {k : Nat} {f : Sn} (h : l[k]? = some f) : (serveL slow delay e l)[k]? = some (endL slow delay e (l.take (k + 1))) := by
  rw [serve_get slow delay h, take_succ' h, endL_snoc]
/-- The frames of Flow are in order and of a good size. -/
theorem flow_len (ss ws : List Int) (vl gap : Int) (n : Nat) : (flowL ss ws vl gap n).length = n := by unfold flowL; simp
theorem flow_get {ss ws : List Int} {vl gap : Int} {n k : Nat} (h : k < n) : (flowL ss ws vl gap n)[k]? = some (flowF ss ws vl gap k) := by
  unfold flowL
  rw [List.getElem?_map, List.getElem?_range h]
  rfl
theorem flow_ok {ss ws : List Int} (hs : ∀ z ∈ ss, 0 ≤ z ∧ z ≤ 255) (hw : ∀ z ∈ ws, 0 ≤ z ∧ z ≤ 255) {vl gap : Int} (g0 : 0 ≤ gap) (g1 : gap ≤ 65535) : ∀ (m k : Nat) (last : Int), last ≤ flowT ws gap k → (k + m ≤ 12) → frOk last ((List.range' k m).map (flowF ss ws vl gap)) = true
  | 0, _, _, _, _ => rfl
  | m + 1, k, last, hla, hk => by
    rw [List.range'_succ, List.map_cons]
    have h1 := flowT_bd hw g0 g1 k
    have h2 := getD_u hw k
    have h3 := getD_u hs k
    have h4 : ((k : Nat) : Int) ≤ 12 := by omega
    unfold frOk
    rw [flow_ok hs hw g0 g1 m (k + 1) _ (by simp only [flowT, flowF]; omega) (by omega)]
    unfold Sn.ok flowF
    simp only [Bool.and_true, Bool.and_eq_true, decide_eq_true_eq]
    omega
end Go.Proofs.YtbncfknjgldcbaaGreat
