/- Merged texts: CRServe. -/
import Derived.Test.YtbncfknjgldcbaaGreatM8
import Derived.Test.YtbncfknjgldcbaaGreatM21
import Derived.Test.YtbncfknjgldcbaaGreatM27
/- The reference's Serve. -/
namespace Go.Proofs.YtbncfknjgldcbaaGreat
open Go.RowKit Go.Joins Go.Shelf Go.Sort Num

set_option maxRecDepth 100000 in
set_option maxHeartbeats 4000000 in
theorem rserve_any (A : Option Addr) (cap : Nat) (l : List Sn) (hbd : l.length ≤ 4000 → ∀ x ∈ l, x.bd64) (slow delay : Int) (hs : I64 slow) (hd : I64 delay) (w : World) (hI : isS A l w) :
    Calls Tryz.prog 37 #[.slice A l.length cap, .int .i64 slow, .int .i64 delay] w (ServePost l slow delay w) := by
  obtain ⟨i0, hi, hz0, hz1, hz2⟩ := info_parts infoI
  have HF := rframes_any A cap l hbd w hI
  have hI := Lib.hid hI
  have hfr : Hid (frB l = true → l.length ≤ 4000 ∧ frOk 0 l = true) := fun h => by
    unfold frB at h
    simpa using h
  have hok : Hid (okS l slow delay ↔ frB l = true ∧ (1 ≤ slow ∧ slow ≤ 16) ∧ (0 ≤ delay ∧ delay ≤ 1000)) := Iff.rfl
  unfold ServePost
  obtain ⟨F, hF⟩ : ∃ F, frB l = F := ⟨_, rfl⟩
  rw [hF] at HF hfr hok
  generalize okS l slow delay = OK at hok ⊢
  clear hF hbd
  go_enter Tryz.func37, Tryz.ntmps37
  go_wp2_with fail
  (with_reducible refine HF.mono ?_); rintro _ w1 ⟨rfl, hb1⟩
  clear HF
  cases F
  · have hn : Hid (¬ OK) := fun h => by have := (hok.out.1 h).1; cases this
    go_wp2
    go_ret2
    exact ⟨fun h => absurd h hn.out, fun _ => rfl, hb1⟩
  by_cases a1 : slow < 1
  · have hn : Hid (¬ OK) := fun h => by have := (hok.out.1 h).2.1.1; omega
    go_wp2
    go_ret2
    exact ⟨fun h => absurd h hn.out, fun _ => rfl, hb1⟩
  by_cases a2 : 16 < slow
  · have hn : Hid (¬ OK) := fun h => by have := (hok.out.1 h).2.1.2; omega
    have z1 : decide (slow < 1) = false := by simp; omega
    go_wp2
    go_ret2
    exact ⟨fun h => absurd h hn.out, fun _ => rfl, hb1⟩
  by_cases a3 : delay < 0
  · have hn : Hid (¬ OK) := fun h => by have := (hok.out.1 h).2.2.1; omega
    have z1 : decide (slow < 1) = false := by simp; omega
    have z2 : decide (16 < slow) = false := by simp; omega
    go_wp2
    go_ret2
    exact ⟨fun h => absurd h hn.out, fun _ => rfl, hb1⟩
  by_cases a4 : 1000 < delay
  · have hn : Hid (¬ OK) := fun h => by have := (hok.out.1 h).2.2.2; omega
    have z1 : decide (slow < 1) = false := by simp; omega
    have z2 : decide (16 < slow) = false := by simp; omega
    have z3 : decide (delay < 0) = false := by simp; omega
    go_wp2
    go_ret2
    exact ⟨fun h => absurd h hn.out, fun _ => rfl, hb1⟩
  have hy : Hid OK := hok.out.2 ⟨rfl, ⟨by omega, by omega⟩, by omega, by omega⟩
  have s1 : 1 ≤ slow := by omega
  have s2 : slow ≤ 16 := by omega
  have d1 : 0 ≤ delay := by omega
  have d2 : delay ≤ 1000 := by omega
  have z1 : decide (slow < 1) = false := by simp; omega
  have z2 : decide (16 < slow) = false := by simp; omega
  have z3 : decide (delay < 0) = false := by simp; omega
  have z4 : decide (1000 < delay) = false := by simp; omega
  obtain ⟨hl4, hfo⟩ := hfr.out rfl
  have hmem := Lib.hid (frOk_mem hfo (Int.le_refl _))
  clear hok hfr hfo a1 a2 a3 a4
  go_wp2_with fail
  clear z1 z2 z3 z4
  go_loopw [8, 9] (fun v i wr => ∃ (k : Nat) (A' : Option Addr) (c' : Nat) (e : Int), k ≤ l.length ∧ i = .int .i64 ↑k ∧ v = .slice A' k c' ∧ Hid (e = endL slow delay 0 (l.take k)) ∧ Hid (0 < k → (serveL slow delay 0 (l.take k))[k - 1]? = some e) ∧ wr.ownsRow w1.heap.size 3 1 (.slice A' k c') k (intsOf (serveL slow delay 0 (l.take k))) ∧ Below w1.heap.size w1 wr)
    (fun _ i _ => l.length - (intOf i).toNat)
  case atStart => exact ⟨0, none, 0, 0, Nat.zero_le _, rfl, rfl, by unfold Hid; rw [List.take_zero]; rfl, (fun h => by omega), by simpa [serveL, intsOf] using World.ownsRow_nil w1 w1.heap.size 3 1, Below.refl _ _⟩
  case round =>
    obtain ⟨k, A', c', e, hk, rfl, rfl, he, hlast, hown, hB⟩ := hrel
    by_cases hlt : k < l.length
    · have hx : l[k]? = some (l[k]'hlt) := List.getElem?_eq_getElem hlt
      obtain ⟨x, hxe⟩ : ∃ x, l[k]'hlt = x := ⟨_, rfl⟩
      rw [hxe] at hx
      have hts := Lib.hid (take_succ' hx)
      obtain ⟨b, off, rfl, hb, hr⟩ := hI.out (by intro h; subst h; simp at hlt)
      have hB1 := hb1.trans (hB.mono hb1.size)
      obtain ⟨c0, c1, c2⟩ := (hr.below hB1 hb) k x hx
      have hbz := Nat.lt_of_lt_of_le hb hB1.size
      obtain ⟨t1, t2, t3, t4⟩ := hmem.out x (List.mem_of_getElem? hx)
      have hnum := endL_bound (slow := slow) (delay := delay) (by omega) s2 d1 d2 (l := l.take k) (e := 0) (B := 0) (fun y hy => hmem.out y (List.mem_of_mem_take hy)) (Int.le_refl _) (by omega) (Int.le_refl _)
      rw [← he.out, List.length_take, Nat.min_eq_left hk] at hnum
      obtain ⟨e1, e2⟩ := hnum
      have e3 : e ≤ 1073742824 + 1152 * 4000 := by
        have : ((k : Nat) : Int) ≤ 4000 := by omega
        omega
      obtain ⟨p, hp⟩ : ∃ p, x.s * slow = p := ⟨_, rfl⟩
      have p0 : 0 ≤ p := by rw [← hp]; exact Int.mul_nonneg (by omega) (by omega)
      have p1 : p ≤ 1152 := by
        have := Int.mul_le_mul t4 s2 (by omega : (0 : Int) ≤ slow) (by omega : (0 : Int) ≤ 72)
        rw [hp] at this
        omega
      have Hown := Lib.hid hown
      have HB := Lib.hid hB
      have hm1 := Lib.hid (show k + 1 ≤ maxLen by unfold maxLen; omega)
      have hy1 := Lib.hid (show (k + 1) * 8 ≤ 140737488355328 by omega)
      have hwz := hB.size
      have hd : decide ((k : Int) < l.length) = true := decide_eq_true (by omega)
      clear e2
      by_cases hk0 : k = 0
      · subst hk0
        have he0 : Hid (e = 0) := by have := he.out; rwa [List.take_zero] at this
        have hmx : Hid (max e (x.t + delay) = x.t + delay) := by unfold Hid; rw [he0.out]; omega
        simp only [Nat.zero_mul, Nat.add_zero] at c0 c1 c2
        have hnext : Hid (endL slow delay 0 (l.take (0 + 1)) = x.t + delay + p) := by unfold Hid; rw [hts.out, endL_snoc, ← he.out, hp, hmx.out]
        have hser : Hid (intsOf (serveL slow delay 0 (l.take (0 + 1))) = intsOf (serveL slow delay 0 (l.take (0))) ++ [.int .i64 (x.t + delay + p)]) := by
          unfold Hid
          have := hnext.out
          rw [hts.out] at this ⊢
          rw [serveL_snoc, this]
          simp [intsOf]
        have hone : Hid (∀ u ∈ [Value.int .i64 (x.t + delay + p)], u.oneCell' = true) := by
          intro u hu
          simp only [List.mem_cons, List.not_mem_nil, or_false] at hu
          subst hu; rfl
        have hNew : (wr.alloc (.cells #[.int .i64 (x.t + delay + p)] 3)).heap[wr.heap.size]? = some (.cells #[.int .i64 (x.t + delay + p)] 3 (0, 0)) := heap_alloc_new wr _
        have hNews := Lib.hid (World.news_of_block hNew)
        have hgl : Hid (∀ h : 0 + 1 ≤ l.length, (serveL slow delay 0 (l.take (0 + 1)))[0]? = some (x.t + delay + p)) := fun h => by
          have h5 : (l.take (0 + 1))[0]? = some x := by rw [List.getElem?_take_of_lt (by omega)]; exact hx
          rw [end_get slow delay (e := 0) h5, List.take_take, Nat.min_self, hnext.out]
        clear hNew hx hxe he hown hB hB1 hr
        go_wp2_with (at_builtin; refine wpList_append_own _ rfl _ _ 66 rfl w1.heap.size 3 i0 _ 1 8 Tryz.underlying66 hi hz0 hz1 hz2 rfl (by decide) _ _ _ rfl (Hown.out.alloc _) ⟨wr.heap.size, 0, none⟩ 1 1 [.int .i64 (x.t + delay + p)] rfl rfl hNews.out hone.out hm1.out hy1.out (by simp; omega) ?_; intro v' w5 hown' hgrow _; obtain ⟨g', cap3, rfl⟩ := ownsRow_succ hown')
        have hB5 := Lib.hid ((HB.out.alloc hwz _).grown hgrow (by simp; omega) (fun j e => own_block_le Hown.out e))
        have Hown5 := Lib.hid hown'
        clear hown' hgrow
        go_roundw
        case rel => exact ⟨0 + 1, some ⟨g', 0, none⟩, cap3, x.t + delay + p, by omega, by go_num, rfl, hnext.out.symm, (fun _ => hgl.out (by omega)), by rw [hser.out]; exact Hown5.out, hB5.out⟩
        case measure => simp [intOf]; omega
      · obtain ⟨m, rfl⟩ : ∃ m, k = m + 1 := ⟨k - 1, by omega⟩
        have hlm := hlast.out (by omega)
        obtain ⟨b3, o3, rfl, hb3, hr3⟩ := (isN.of_own hown (by rw [serveL_len, List.length_take]; omega)) (by intro e0; rw [e0] at hlm; simp at hlm)
        have g0 := hr3 m e hlm
        have hk1 : decide ((0 : Int) < ((m + 1 : Nat) : Int)) = true := decide_eq_true (by omega)
        have hml : m < m + 1 := by omega
        clear hlm hr3
        by_cases hgt : x.t + delay < e
        · have hmx : Hid (max e (x.t + delay) = e) := by unfold Hid; omega
          have hdg : decide (x.t + delay < e) = true := decide_eq_true hgt
          have hnext : Hid (endL slow delay 0 (l.take (m + 1 + 1)) = e + p) := by unfold Hid; rw [hts.out, endL_snoc, ← he.out, hp, hmx.out]
          have hser : Hid (intsOf (serveL slow delay 0 (l.take (m + 1 + 1))) = intsOf (serveL slow delay 0 (l.take (m + 1))) ++ [.int .i64 (e + p)]) := by
            unfold Hid
            have := hnext.out
            rw [hts.out] at this ⊢
            rw [serveL_snoc, this]
            simp [intsOf]
          have hone : Hid (∀ u ∈ [Value.int .i64 (e + p)], u.oneCell' = true) := by
            intro u hu
            simp only [List.mem_cons, List.not_mem_nil, or_false] at hu
            subst hu; rfl
          have hNew : (wr.alloc (.cells #[.int .i64 (e + p)] 3)).heap[wr.heap.size]? = some (.cells #[.int .i64 (e + p)] 3 (0, 0)) := heap_alloc_new wr _
          have hNews := Lib.hid (World.news_of_block hNew)
          have hgl : Hid (∀ h : m + 1 + 1 ≤ l.length, (serveL slow delay 0 (l.take (m + 1 + 1)))[m + 1]? = some (e + p)) := fun h => by
            have h5 : (l.take (m + 1 + 1))[m + 1]? = some x := by rw [List.getElem?_take_of_lt (by omega)]; exact hx
            rw [end_get slow delay (e := 0) h5, List.take_take, Nat.min_self, hnext.out]
          clear hNew hx hxe he hown hB hB1 hr
          go_wp2_with (at_builtin; refine wpList_append_own _ rfl _ _ 66 rfl w1.heap.size 3 i0 _ 1 8 Tryz.underlying66 hi hz0 hz1 hz2 rfl (by decide) _ _ _ rfl (Hown.out.alloc _) ⟨wr.heap.size, 0, none⟩ 1 1 [.int .i64 (e + p)] rfl rfl hNews.out hone.out hm1.out hy1.out (by simp; omega) ?_; intro v' w5 hown' hgrow _; obtain ⟨g', cap3, rfl⟩ := ownsRow_succ hown')
          have hB5 := Lib.hid ((HB.out.alloc hwz _).grown hgrow (by simp; omega) (fun j e => own_block_le Hown.out e))
          have Hown5 := Lib.hid hown'
          clear hown' hgrow
          go_roundw
          case rel => exact ⟨m + 1 + 1, some ⟨g', 0, none⟩, cap3, e + p, by omega, by go_num, rfl, hnext.out.symm, (fun _ => hgl.out (by omega)), by rw [hser.out]; exact Hown5.out, hB5.out⟩
          case measure => simp [intOf]; omega
        · have hmx : Hid (max e (x.t + delay) = x.t + delay) := by unfold Hid; omega
          have hdg : decide (x.t + delay < e) = false := decide_eq_false hgt
          have hnext : Hid (endL slow delay 0 (l.take (m + 1 + 1)) = x.t + delay + p) := by unfold Hid; rw [hts.out, endL_snoc, ← he.out, hp, hmx.out]
          have hser : Hid (intsOf (serveL slow delay 0 (l.take (m + 1 + 1))) = intsOf (serveL slow delay 0 (l.take (m + 1))) ++ [.int .i64 (x.t + delay + p)]) := by
            unfold Hid
            have := hnext.out
            rw [hts.out] at this ⊢
            rw [serveL_snoc, this]
            simp [intsOf]
          have hone : Hid (∀ u ∈ [Value.int .i64 (x.t + delay + p)], u.oneCell' = true) := by
            intro u hu
            simp only [List.mem_cons, List.not_mem_nil, or_false] at hu
            subst hu; rfl
          have hNew : (wr.alloc (.cells #[.int .i64 (x.t + delay + p)] 3)).heap[wr.heap.size]? = some (.cells #[.int .i64 (x.t + delay + p)] 3 (0, 0)) := heap_alloc_new wr _
          have hNews := Lib.hid (World.news_of_block hNew)
          have hgl : Hid (∀ h : m + 1 + 1 ≤ l.length, (serveL slow delay 0 (l.take (m + 1 + 1)))[m + 1]? = some (x.t + delay + p)) := fun h => by
            have h5 : (l.take (m + 1 + 1))[m + 1]? = some x := by rw [List.getElem?_take_of_lt (by omega)]; exact hx
            rw [end_get slow delay (e := 0) h5, List.take_take, Nat.min_self, hnext.out]
          clear hNew hx hxe he hown hB hB1 hr
          go_wp2_with (at_builtin; refine wpList_append_own _ rfl _ _ 66 rfl w1.heap.size 3 i0 _ 1 8 Tryz.underlying66 hi hz0 hz1 hz2 rfl (by decide) _ _ _ rfl (Hown.out.alloc _) ⟨wr.heap.size, 0, none⟩ 1 1 [.int .i64 (x.t + delay + p)] rfl rfl hNews.out hone.out hm1.out hy1.out (by simp; omega) ?_; intro v' w5 hown' hgrow _; obtain ⟨g', cap3, rfl⟩ := ownsRow_succ hown')
          have hB5 := Lib.hid ((HB.out.alloc hwz _).grown hgrow (by simp; omega) (fun j e => own_block_le Hown.out e))
          have Hown5 := Lib.hid hown'
          clear hown' hgrow
          go_roundw
          case rel => exact ⟨m + 1 + 1, some ⟨g', 0, none⟩, cap3, x.t + delay + p, by omega, by go_num, rfl, hnext.out.symm, (fun _ => hgl.out (by omega)), by rw [hser.out]; exact Hown5.out, hB5.out⟩
          case measure => simp [intOf]; omega
    · obtain rfl : k = l.length := by omega
      rw [List.take_length] at hown
      have hN := Lib.hid (isN.of_own hown (serveL_len _ _ _ _).symm)
      have hB1 := hb1.trans (hB.mono hb1.size)
      clear hown
      go_wp2
      go_ret2
      exact ⟨fun _ => ⟨A', c', rfl, hN.out⟩, fun h => absurd hy.out h, hB1⟩
end Go.Proofs.YtbncfknjgldcbaaGreat
