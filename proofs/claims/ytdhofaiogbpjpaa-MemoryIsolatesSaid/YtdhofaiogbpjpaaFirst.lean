/- first[T] at each of its closures. Written by genfirst.py. -/
import Derived.Test.YtdhofaiogbpjpaaClos
namespace Go.Proofs.Ytdhofaiogbpjpaa
open Go.RowKit Go.Joins
namespace Me
theorem find_step {α : Type} {l : List α} {q : α → Bool} {k : Nat} {x : α} (hk : l[k]? = some x) (h : (l.take k).find? q = none) : (l.take (k + 1)).find? q = (if q x = true then some x else none) := by
  rw [take_snoc' hk, List.find?_append, h]
  cases hq : q x <;> simp [hq]
theorem find_yes {α : Type} {l : List α} {q : α → Bool} {k : Nat} {x : α} (hk : l[k]? = some x) (h : (l.take k).find? q = none) (hq : q x = true) : l.find? q = some x := by
  have h1 := find_step hk h
  rw [if_pos hq] at h1
  have := List.take_append_drop (k + 1) l
  rw [← this, List.find?_append, h1]; rfl
def rg0 : Rg := ⟨0, 0, 0⟩

set_option maxRecDepth 100000 in
set_option maxHeartbeats 4000000 in
theorem firstO_any (q : Rg → Bool) (B : Nat) (A : Option Addr) (cap n : Nat) (L : List Rg) (hn : L.length = n) (hn1 : n ≤ 1000000000) (w : World) (hA : isG A L w)
    (HN : ∀ (x : Rg) (W : World), x ∈ L → Below w.heap.size w W → Calls Try.prog 49 #[rgV x, .pointer (some ⟨B, 0, none⟩)] W fun e w' => e = .returned (.bool (q x)) ∧ Below W.heap.size W w') :
    Calls Try.prog 38 #[.slice A n cap, .func (.func 49) #[] #[.pointer (some ⟨B, 0, none⟩)]] w fun e w' => e = .returned (.tuple #[rgV ((L.find? q).getD rg0), .bool (L.find? q).isSome]) ∧ Below w.heap.size w w' := by
  replace HN := Lib.hid HN
  have hz : ∀ w : World, (zeroValue 45).run Try.prog w = .ok (.agg #[.int .i64 0, .int .i64 0, .int .i64 0]) w := fun _ => by kernel_rfl
  have HA := Lib.hid hA
  have HL := Lib.hid hn
  clear hA hn
  go_enter Try.func38, Try.ntmps38
  go_wp2_with fail
  have b0 := BoxN.new w 45 #[.int .i64 0, .int .i64 0, .int .i64 0]
  have hB0 := (Below.refl w.heap.size w).alloc (Nat.le_refl _) (.cells #[.int .i64 0, .int .i64 0, .int .i64 0] 45)
  generalize w.alloc (.cells #[.int .i64 0, .int .i64 0, .int .i64 0] 45) = W0 at b0 hB0 ⊢
  obtain ⟨g, hg⟩ : ∃ g, w.heap.size = g := ⟨_, rfl⟩
  have Hg := Lib.hid hg
  rw [hg] at b0 hB0 ⊢
  clear hg
  go_loopw [11] (fun i wr => ∃ k : Nat, k ≤ n ∧ i = .int .i64 ↑k ∧ Hid ((L.take k).find? q = none) ∧ BoxN wr g 45 #[.int .i64 0, .int .i64 0, .int .i64 0] ∧ Below g w wr)
    (fun i _ => n - (intOf i).toNat)
  case atStart => exact ⟨0, Nat.zero_le _, rfl, rfl, b0, hB0⟩
  case round =>
    clear b0 hB0
    obtain ⟨k, hk, rfl, hno, bR, hB⟩ := hrel
    by_cases hlt : k < n
    · have hx : L[k]? = some (L[k]'(by rw [HL.out]; exact hlt)) := List.getElem?_eq_getElem _
      obtain ⟨x, hxe⟩ : ∃ x, L[k]'(by rw [HL.out]; exact hlt) = x := ⟨_, rfl⟩
      rw [hxe] at hx
      have hAr := isG.keep HA.out (by rw [Hg.out]; exact hB)
      obtain ⟨ab, ao, rfl, hal, c0, c1, c2⟩ := isG.at hAr hx
      have hld := load_rg ⟨c0, c1, c2⟩
      have hmem := List.mem_of_getElem? hx
      have hstep : Hid (q x = false → (L.take (k + 1)).find? q = none) := fun h => by rw [find_step hx hno.out, h]; rfl
      have hyes : Hid (q x = true → L.find? q = some x) := fun h => find_yes hx hno.out h
      have hgs := bR.lt
      have hB1 := hB.alloc (by omega) (.cells #[.int .i64 x.p, .int .i64 x.b, .int .i64 x.s] 45)
      have HC := Lib.hid (HN.out x (wr.alloc (.cells #[.int .i64 x.p, .int .i64 x.b, .int .i64 x.s] 45)) hmem (by rw [Hg.out]; exact hB1))
      have bR1 := bR.alloc (.cells #[.int .i64 x.p, .int .i64 x.b, .int .i64 x.s] 45)
      have bX := BoxN.new wr 45 #[.int .i64 x.p, .int .i64 x.b, .int .i64 x.s]
      clear hx hxe hno hAr bR
      go_wp2_with fail
      (with_reducible refine (HC.out).mono ?_); rintro _ w1 ⟨rfl, hb1⟩
      replace bR1 := bR1.keep hb1
      replace bX := bX.keep hb1
      have hB2 := hB1.trans (hb1.mono (by simp; omega))
      clear hb1 hB1 HC c0 c1 c2 hld
      cases hq : q x with
      | false =>
        have hno2 := Lib.hid (hstep.out hq)
        clear hstep hyes hq bX
        go_wp2_with fail
        go_roundw
        case rel => exact ⟨k + 1, by omega, by go_num, hno2.out, bR1, hB2⟩
        case measure => simp [intOf]; omega
      | true =>
        have hres := Lib.hid (hyes.out hq)
        clear hstep hyes hq
        obtain ⟨ar, har⟩ : ∃ ar : Array Value, #[.int .i64 x.p, .int .i64 x.b, .int .i64 x.s] = ar := ⟨_, rfl⟩
        have hi : (Try.prog.info? 45).map (·.size) = some ar.size := by rw [← har]; exact info_rg
        have ho : ar.all (·.oneCell') = true := by rw [← har]; simp [Value.oneCell']
        have hs : (#[.int .i64 0, .int .i64 0, .int .i64 0] : Array Value).size = ar.size := by rw [← har]; rfl
        rw [har] at bX
        have b0' : w1.heap[g]? = some (.cells #[.int .i64 0, .int .i64 0, .int .i64 0] 45 (0, 0)) := bR1
        have b1' : w1.heap[wr.heap.size]? = some (.cells ar 45 (0, 0)) := bX
        have b2' : (w1.setRow g ar).heap[g]? = some (.cells ar 45 (0, 0)) := bR1.setRow ar
        have hB3 := below_setRow hB2 (Nat.le_refl g) ar
        clear bR1 bX hB2
        have Har := Lib.hid har
        clear har
        go_wp2_with (first | (refine wpList_load_row rfl 45 _ rfl wr.heap.size rfl _ ar _ _ b1' Try.underlying45 rfl hi ?_) | (refine wpList_store_rowTo rfl 45 _ _ rfl rfl g ar rfl rfl _ #[.int .i64 0, .int .i64 0, .int .i64 0] b0' hi hs ho ?_))
        exact bodyPost_ret (v := .tuple #[.agg ar, .bool true]) (results_row_tmp Try.results38 _ _ g _ ar _ _ rfl b2' Try.underlying45 rfl hi) rfl ⟨by rw [hres.out, ← Har.out]; rfl, by rw [Hg.out]; exact hB3⟩
    · obtain rfl : k = n := by omega
      have hres : Hid (L.find? q = none) := by
        have := hno.out
        rwa [List.take_of_length_le (by rw [HL.out]; exact Nat.le_refl _)] at this
      have hgs := bR.lt
      have bR1 := bR.alloc (.cells #[.int .i64 0, .int .i64 0, .int .i64 0] 45)
      have hB1 := hB.alloc (by omega) (.cells #[.int .i64 0, .int .i64 0, .int .i64 0] 45)
      have bX := BoxN.new wr 45 #[.int .i64 0, .int .i64 0, .int .i64 0]
      obtain ⟨ar, har⟩ : ∃ ar : Array Value, #[.int .i64 0, .int .i64 0, .int .i64 0] = ar := ⟨_, rfl⟩
      have hi : (Try.prog.info? 45).map (·.size) = some ar.size := by rw [← har]; exact info_rg
      have ho : ar.all (·.oneCell') = true := by rw [← har]; simp [Value.oneCell']
      have hs : ar.size = ar.size := rfl
      rw [har] at bR1 bX hB1 hz
      clear bR hno
      obtain ⟨w1, hw1⟩ : ∃ w1, wr.alloc (.cells ar 45) = w1 := ⟨_, rfl⟩
      rw [hw1] at bR1 bX hB1
      have b0' : w1.heap[g]? = some (.cells ar 45 (0, 0)) := bR1
      have b1' : w1.heap[wr.heap.size]? = some (.cells ar 45 (0, 0)) := bX
      have b2' : (w1.setRow g ar).heap[g]? = some (.cells ar 45 (0, 0)) := bR1.setRow ar
      have hB3 := below_setRow hB1 (Nat.le_refl g) ar
      clear bR1 bX hB1 hB
      have Har := Lib.hid har
      clear har
      go_wp2_with (first | (refine wpList_load_row rfl 45 _ rfl wr.heap.size rfl _ ar _ _ b1' Try.underlying45 rfl hi ?_) | (refine wpList_store_rowTo rfl 45 _ _ rfl rfl g ar rfl rfl _ ar b0' hi hs ho ?_))
      exact bodyPost_ret (v := .tuple #[.agg ar, .bool false]) (results_row_tmp Try.results38 _ _ g _ ar _ _ rfl b2' Try.underlying45 rfl hi) rfl ⟨by rw [hres.out, ← Har.out]; rfl, by rw [Hg.out]; exact hB3⟩

set_option maxRecDepth 100000 in
set_option maxHeartbeats 4000000 in
theorem firstA_any (q : Rg → Bool) (B : Nat) (A : Option Addr) (cap n : Nat) (L : List Rg) (hn : L.length = n) (hn1 : n ≤ 1000000000) (w : World) (hA : isG A L w)
    (HN : ∀ (x : Rg) (W : World), x ∈ L → Below w.heap.size w W → Calls Try.prog 46 #[rgV x, .pointer (some ⟨B, 0, none⟩)] W fun e w' => e = .returned (.bool (q x)) ∧ Below W.heap.size W w') :
    Calls Try.prog 38 #[.slice A n cap, .func (.func 46) #[] #[.pointer (some ⟨B, 0, none⟩)]] w fun e w' => e = .returned (.tuple #[rgV ((L.find? q).getD rg0), .bool (L.find? q).isSome]) ∧ Below w.heap.size w w' := by
  replace HN := Lib.hid HN
  have hz : ∀ w : World, (zeroValue 45).run Try.prog w = .ok (.agg #[.int .i64 0, .int .i64 0, .int .i64 0]) w := fun _ => by kernel_rfl
  have HA := Lib.hid hA
  have HL := Lib.hid hn
  clear hA hn
  go_enter Try.func38, Try.ntmps38
  go_wp2_with fail
  have b0 := BoxN.new w 45 #[.int .i64 0, .int .i64 0, .int .i64 0]
  have hB0 := (Below.refl w.heap.size w).alloc (Nat.le_refl _) (.cells #[.int .i64 0, .int .i64 0, .int .i64 0] 45)
  generalize w.alloc (.cells #[.int .i64 0, .int .i64 0, .int .i64 0] 45) = W0 at b0 hB0 ⊢
  obtain ⟨g, hg⟩ : ∃ g, w.heap.size = g := ⟨_, rfl⟩
  have Hg := Lib.hid hg
  rw [hg] at b0 hB0 ⊢
  clear hg
  go_loopw [11] (fun i wr => ∃ k : Nat, k ≤ n ∧ i = .int .i64 ↑k ∧ Hid ((L.take k).find? q = none) ∧ BoxN wr g 45 #[.int .i64 0, .int .i64 0, .int .i64 0] ∧ Below g w wr)
    (fun i _ => n - (intOf i).toNat)
  case atStart => exact ⟨0, Nat.zero_le _, rfl, rfl, b0, hB0⟩
  case round =>
    clear b0 hB0
    obtain ⟨k, hk, rfl, hno, bR, hB⟩ := hrel
    by_cases hlt : k < n
    · have hx : L[k]? = some (L[k]'(by rw [HL.out]; exact hlt)) := List.getElem?_eq_getElem _
      obtain ⟨x, hxe⟩ : ∃ x, L[k]'(by rw [HL.out]; exact hlt) = x := ⟨_, rfl⟩
      rw [hxe] at hx
      have hAr := isG.keep HA.out (by rw [Hg.out]; exact hB)
      obtain ⟨ab, ao, rfl, hal, c0, c1, c2⟩ := isG.at hAr hx
      have hld := load_rg ⟨c0, c1, c2⟩
      have hmem := List.mem_of_getElem? hx
      have hstep : Hid (q x = false → (L.take (k + 1)).find? q = none) := fun h => by rw [find_step hx hno.out, h]; rfl
      have hyes : Hid (q x = true → L.find? q = some x) := fun h => find_yes hx hno.out h
      have hgs := bR.lt
      have hB1 := hB.alloc (by omega) (.cells #[.int .i64 x.p, .int .i64 x.b, .int .i64 x.s] 45)
      have HC := Lib.hid (HN.out x (wr.alloc (.cells #[.int .i64 x.p, .int .i64 x.b, .int .i64 x.s] 45)) hmem (by rw [Hg.out]; exact hB1))
      have bR1 := bR.alloc (.cells #[.int .i64 x.p, .int .i64 x.b, .int .i64 x.s] 45)
      have bX := BoxN.new wr 45 #[.int .i64 x.p, .int .i64 x.b, .int .i64 x.s]
      clear hx hxe hno hAr bR
      go_wp2_with fail
      (with_reducible refine (HC.out).mono ?_); rintro _ w1 ⟨rfl, hb1⟩
      replace bR1 := bR1.keep hb1
      replace bX := bX.keep hb1
      have hB2 := hB1.trans (hb1.mono (by simp; omega))
      clear hb1 hB1 HC c0 c1 c2 hld
      cases hq : q x with
      | false =>
        have hno2 := Lib.hid (hstep.out hq)
        clear hstep hyes hq bX
        go_wp2_with fail
        go_roundw
        case rel => exact ⟨k + 1, by omega, by go_num, hno2.out, bR1, hB2⟩
        case measure => simp [intOf]; omega
      | true =>
        have hres := Lib.hid (hyes.out hq)
        clear hstep hyes hq
        obtain ⟨ar, har⟩ : ∃ ar : Array Value, #[.int .i64 x.p, .int .i64 x.b, .int .i64 x.s] = ar := ⟨_, rfl⟩
        have hi : (Try.prog.info? 45).map (·.size) = some ar.size := by rw [← har]; exact info_rg
        have ho : ar.all (·.oneCell') = true := by rw [← har]; simp [Value.oneCell']
        have hs : (#[.int .i64 0, .int .i64 0, .int .i64 0] : Array Value).size = ar.size := by rw [← har]; rfl
        rw [har] at bX
        have b0' : w1.heap[g]? = some (.cells #[.int .i64 0, .int .i64 0, .int .i64 0] 45 (0, 0)) := bR1
        have b1' : w1.heap[wr.heap.size]? = some (.cells ar 45 (0, 0)) := bX
        have b2' : (w1.setRow g ar).heap[g]? = some (.cells ar 45 (0, 0)) := bR1.setRow ar
        have hB3 := below_setRow hB2 (Nat.le_refl g) ar
        clear bR1 bX hB2
        have Har := Lib.hid har
        clear har
        go_wp2_with (first | (refine wpList_load_row rfl 45 _ rfl wr.heap.size rfl _ ar _ _ b1' Try.underlying45 rfl hi ?_) | (refine wpList_store_rowTo rfl 45 _ _ rfl rfl g ar rfl rfl _ #[.int .i64 0, .int .i64 0, .int .i64 0] b0' hi hs ho ?_))
        exact bodyPost_ret (v := .tuple #[.agg ar, .bool true]) (results_row_tmp Try.results38 _ _ g _ ar _ _ rfl b2' Try.underlying45 rfl hi) rfl ⟨by rw [hres.out, ← Har.out]; rfl, by rw [Hg.out]; exact hB3⟩
    · obtain rfl : k = n := by omega
      have hres : Hid (L.find? q = none) := by
        have := hno.out
        rwa [List.take_of_length_le (by rw [HL.out]; exact Nat.le_refl _)] at this
      have hgs := bR.lt
      have bR1 := bR.alloc (.cells #[.int .i64 0, .int .i64 0, .int .i64 0] 45)
      have hB1 := hB.alloc (by omega) (.cells #[.int .i64 0, .int .i64 0, .int .i64 0] 45)
      have bX := BoxN.new wr 45 #[.int .i64 0, .int .i64 0, .int .i64 0]
      obtain ⟨ar, har⟩ : ∃ ar : Array Value, #[.int .i64 0, .int .i64 0, .int .i64 0] = ar := ⟨_, rfl⟩
      have hi : (Try.prog.info? 45).map (·.size) = some ar.size := by rw [← har]; exact info_rg
      have ho : ar.all (·.oneCell') = true := by rw [← har]; simp [Value.oneCell']
      have hs : ar.size = ar.size := rfl
      rw [har] at bR1 bX hB1 hz
      clear bR hno
      obtain ⟨w1, hw1⟩ : ∃ w1, wr.alloc (.cells ar 45) = w1 := ⟨_, rfl⟩
      rw [hw1] at bR1 bX hB1
      have b0' : w1.heap[g]? = some (.cells ar 45 (0, 0)) := bR1
      have b1' : w1.heap[wr.heap.size]? = some (.cells ar 45 (0, 0)) := bX
      have b2' : (w1.setRow g ar).heap[g]? = some (.cells ar 45 (0, 0)) := bR1.setRow ar
      have hB3 := below_setRow hB1 (Nat.le_refl g) ar
      clear bR1 bX hB1 hB
      have Har := Lib.hid har
      clear har
      go_wp2_with (first | (refine wpList_load_row rfl 45 _ rfl wr.heap.size rfl _ ar _ _ b1' Try.underlying45 rfl hi ?_) | (refine wpList_store_rowTo rfl 45 _ _ rfl rfl g ar rfl rfl _ ar b0' hi hs ho ?_))
      exact bodyPost_ret (v := .tuple #[.agg ar, .bool false]) (results_row_tmp Try.results38 _ _ g _ ar _ _ rfl b2' Try.underlying45 rfl hi) rfl ⟨by rw [hres.out, ← Har.out]; rfl, by rw [Hg.out]; exact hB3⟩

set_option maxRecDepth 100000 in
set_option maxHeartbeats 4000000 in
theorem firstV_any (q : Rg → Bool) (B : Nat) (A : Option Addr) (cap n : Nat) (L : List Rg) (hn : L.length = n) (hn1 : n ≤ 1000000000) (w : World) (hA : isG A L w)
    (HN : ∀ (x : Rg) (W : World), x ∈ L → Below w.heap.size w W → Calls Try.prog 39 #[rgV x, .pointer (some ⟨B, 0, none⟩)] W fun e w' => e = .returned (.bool (q x)) ∧ Below W.heap.size W w') :
    Calls Try.prog 38 #[.slice A n cap, .func (.func 39) #[] #[.pointer (some ⟨B, 0, none⟩)]] w fun e w' => e = .returned (.tuple #[rgV ((L.find? q).getD rg0), .bool (L.find? q).isSome]) ∧ Below w.heap.size w w' := by
  replace HN := Lib.hid HN
  have hz : ∀ w : World, (zeroValue 45).run Try.prog w = .ok (.agg #[.int .i64 0, .int .i64 0, .int .i64 0]) w := fun _ => by kernel_rfl
  have HA := Lib.hid hA
  have HL := Lib.hid hn
  clear hA hn
  go_enter Try.func38, Try.ntmps38
  go_wp2_with fail
  have b0 := BoxN.new w 45 #[.int .i64 0, .int .i64 0, .int .i64 0]
  have hB0 := (Below.refl w.heap.size w).alloc (Nat.le_refl _) (.cells #[.int .i64 0, .int .i64 0, .int .i64 0] 45)
  generalize w.alloc (.cells #[.int .i64 0, .int .i64 0, .int .i64 0] 45) = W0 at b0 hB0 ⊢
  obtain ⟨g, hg⟩ : ∃ g, w.heap.size = g := ⟨_, rfl⟩
  have Hg := Lib.hid hg
  rw [hg] at b0 hB0 ⊢
  clear hg
  go_loopw [11] (fun i wr => ∃ k : Nat, k ≤ n ∧ i = .int .i64 ↑k ∧ Hid ((L.take k).find? q = none) ∧ BoxN wr g 45 #[.int .i64 0, .int .i64 0, .int .i64 0] ∧ Below g w wr)
    (fun i _ => n - (intOf i).toNat)
  case atStart => exact ⟨0, Nat.zero_le _, rfl, rfl, b0, hB0⟩
  case round =>
    clear b0 hB0
    obtain ⟨k, hk, rfl, hno, bR, hB⟩ := hrel
    by_cases hlt : k < n
    · have hx : L[k]? = some (L[k]'(by rw [HL.out]; exact hlt)) := List.getElem?_eq_getElem _
      obtain ⟨x, hxe⟩ : ∃ x, L[k]'(by rw [HL.out]; exact hlt) = x := ⟨_, rfl⟩
      rw [hxe] at hx
      have hAr := isG.keep HA.out (by rw [Hg.out]; exact hB)
      obtain ⟨ab, ao, rfl, hal, c0, c1, c2⟩ := isG.at hAr hx
      have hld := load_rg ⟨c0, c1, c2⟩
      have hmem := List.mem_of_getElem? hx
      have hstep : Hid (q x = false → (L.take (k + 1)).find? q = none) := fun h => by rw [find_step hx hno.out, h]; rfl
      have hyes : Hid (q x = true → L.find? q = some x) := fun h => find_yes hx hno.out h
      have hgs := bR.lt
      have hB1 := hB.alloc (by omega) (.cells #[.int .i64 x.p, .int .i64 x.b, .int .i64 x.s] 45)
      have HC := Lib.hid (HN.out x (wr.alloc (.cells #[.int .i64 x.p, .int .i64 x.b, .int .i64 x.s] 45)) hmem (by rw [Hg.out]; exact hB1))
      have bR1 := bR.alloc (.cells #[.int .i64 x.p, .int .i64 x.b, .int .i64 x.s] 45)
      have bX := BoxN.new wr 45 #[.int .i64 x.p, .int .i64 x.b, .int .i64 x.s]
      clear hx hxe hno hAr bR
      go_wp2_with fail
      (with_reducible refine (HC.out).mono ?_); rintro _ w1 ⟨rfl, hb1⟩
      replace bR1 := bR1.keep hb1
      replace bX := bX.keep hb1
      have hB2 := hB1.trans (hb1.mono (by simp; omega))
      clear hb1 hB1 HC c0 c1 c2 hld
      cases hq : q x with
      | false =>
        have hno2 := Lib.hid (hstep.out hq)
        clear hstep hyes hq bX
        go_wp2_with fail
        go_roundw
        case rel => exact ⟨k + 1, by omega, by go_num, hno2.out, bR1, hB2⟩
        case measure => simp [intOf]; omega
      | true =>
        have hres := Lib.hid (hyes.out hq)
        clear hstep hyes hq
        obtain ⟨ar, har⟩ : ∃ ar : Array Value, #[.int .i64 x.p, .int .i64 x.b, .int .i64 x.s] = ar := ⟨_, rfl⟩
        have hi : (Try.prog.info? 45).map (·.size) = some ar.size := by rw [← har]; exact info_rg
        have ho : ar.all (·.oneCell') = true := by rw [← har]; simp [Value.oneCell']
        have hs : (#[.int .i64 0, .int .i64 0, .int .i64 0] : Array Value).size = ar.size := by rw [← har]; rfl
        rw [har] at bX
        have b0' : w1.heap[g]? = some (.cells #[.int .i64 0, .int .i64 0, .int .i64 0] 45 (0, 0)) := bR1
        have b1' : w1.heap[wr.heap.size]? = some (.cells ar 45 (0, 0)) := bX
        have b2' : (w1.setRow g ar).heap[g]? = some (.cells ar 45 (0, 0)) := bR1.setRow ar
        have hB3 := below_setRow hB2 (Nat.le_refl g) ar
        clear bR1 bX hB2
        have Har := Lib.hid har
        clear har
        go_wp2_with (first | (refine wpList_load_row rfl 45 _ rfl wr.heap.size rfl _ ar _ _ b1' Try.underlying45 rfl hi ?_) | (refine wpList_store_rowTo rfl 45 _ _ rfl rfl g ar rfl rfl _ #[.int .i64 0, .int .i64 0, .int .i64 0] b0' hi hs ho ?_))
        exact bodyPost_ret (v := .tuple #[.agg ar, .bool true]) (results_row_tmp Try.results38 _ _ g _ ar _ _ rfl b2' Try.underlying45 rfl hi) rfl ⟨by rw [hres.out, ← Har.out]; rfl, by rw [Hg.out]; exact hB3⟩
    · obtain rfl : k = n := by omega
      have hres : Hid (L.find? q = none) := by
        have := hno.out
        rwa [List.take_of_length_le (by rw [HL.out]; exact Nat.le_refl _)] at this
      have hgs := bR.lt
      have bR1 := bR.alloc (.cells #[.int .i64 0, .int .i64 0, .int .i64 0] 45)
      have hB1 := hB.alloc (by omega) (.cells #[.int .i64 0, .int .i64 0, .int .i64 0] 45)
      have bX := BoxN.new wr 45 #[.int .i64 0, .int .i64 0, .int .i64 0]
      obtain ⟨ar, har⟩ : ∃ ar : Array Value, #[.int .i64 0, .int .i64 0, .int .i64 0] = ar := ⟨_, rfl⟩
      have hi : (Try.prog.info? 45).map (·.size) = some ar.size := by rw [← har]; exact info_rg
      have ho : ar.all (·.oneCell') = true := by rw [← har]; simp [Value.oneCell']
      have hs : ar.size = ar.size := rfl
      rw [har] at bR1 bX hB1 hz
      clear bR hno
      obtain ⟨w1, hw1⟩ : ∃ w1, wr.alloc (.cells ar 45) = w1 := ⟨_, rfl⟩
      rw [hw1] at bR1 bX hB1
      have b0' : w1.heap[g]? = some (.cells ar 45 (0, 0)) := bR1
      have b1' : w1.heap[wr.heap.size]? = some (.cells ar 45 (0, 0)) := bX
      have b2' : (w1.setRow g ar).heap[g]? = some (.cells ar 45 (0, 0)) := bR1.setRow ar
      have hB3 := below_setRow hB1 (Nat.le_refl g) ar
      clear bR1 bX hB1 hB
      have Har := Lib.hid har
      clear har
      go_wp2_with (first | (refine wpList_load_row rfl 45 _ rfl wr.heap.size rfl _ ar _ _ b1' Try.underlying45 rfl hi ?_) | (refine wpList_store_rowTo rfl 45 _ _ rfl rfl g ar rfl rfl _ ar b0' hi hs ho ?_))
      exact bodyPost_ret (v := .tuple #[.agg ar, .bool false]) (results_row_tmp Try.results38 _ _ g _ ar _ _ rfl b2' Try.underlying45 rfl hi) rfl ⟨by rw [hres.out, ← Har.out]; rfl, by rw [Hg.out]; exact hB3⟩
def pt0 : Pt := ⟨⟨#[]⟩, 0, 0, 0, none, 0, 0, 0, 0, none, 0, 0, none, 0, 0, none, 0, 0⟩

set_option maxRecDepth 100000 in
set_option maxHeartbeats 4000000 in
theorem firstP_any (q : Pt → Bool) (A : Option Addr) (cap n : Nat) (L : List Pt) (hn : L.length = n) (hn1 : n ≤ 1000000000) (w : World) (hA : isP A L w)
    (HN : ∀ (x : Pt) (W : World), x ∈ L → Below w.heap.size w W → Calls Try.prog 48 #[ptV x] W fun e w' => e = .returned (.bool (q x)) ∧ Below W.heap.size W w') :
    Calls Try.prog 47 #[.slice A n cap, .func (.func 48) #[] #[]] w fun e w' => e = .returned (.tuple #[ptV ((L.find? q).getD pt0), .bool (L.find? q).isSome]) ∧ Below w.heap.size w w' := by
  replace HN := Lib.hid HN
  have hz : ∀ w : World, (zeroValue 42).run Try.prog w = .ok (.agg #[.string ⟨#[]⟩, .int .i64 0, .int .i64 0, .int .i64 0, .slice none 0 0, .int .i64 0, .int .i64 0, .slice none 0 0, .slice none 0 0, .slice none 0 0]) w := fun _ => by kernel_rfl
  have HA := Lib.hid hA
  have HL := Lib.hid hn
  clear hA hn
  go_enter Try.func47, Try.ntmps47
  go_wp2_with fail
  have b0 := BoxN.new w 42 #[.string ⟨#[]⟩, .int .i64 0, .int .i64 0, .int .i64 0, .slice none 0 0, .int .i64 0, .int .i64 0, .slice none 0 0, .slice none 0 0, .slice none 0 0]
  have hB0 := (Below.refl w.heap.size w).alloc (Nat.le_refl _) (.cells #[.string ⟨#[]⟩, .int .i64 0, .int .i64 0, .int .i64 0, .slice none 0 0, .int .i64 0, .int .i64 0, .slice none 0 0, .slice none 0 0, .slice none 0 0] 42)
  generalize w.alloc (.cells #[.string ⟨#[]⟩, .int .i64 0, .int .i64 0, .int .i64 0, .slice none 0 0, .int .i64 0, .int .i64 0, .slice none 0 0, .slice none 0 0, .slice none 0 0] 42) = W0 at b0 hB0 ⊢
  obtain ⟨g, hg⟩ : ∃ g, w.heap.size = g := ⟨_, rfl⟩
  have Hg := Lib.hid hg
  rw [hg] at b0 hB0 ⊢
  clear hg
  go_loopw [11] (fun i wr => ∃ k : Nat, k ≤ n ∧ i = .int .i64 ↑k ∧ Hid ((L.take k).find? q = none) ∧ BoxN wr g 42 #[.string ⟨#[]⟩, .int .i64 0, .int .i64 0, .int .i64 0, .slice none 0 0, .int .i64 0, .int .i64 0, .slice none 0 0, .slice none 0 0, .slice none 0 0] ∧ Below g w wr)
    (fun i _ => n - (intOf i).toNat)
  case atStart => exact ⟨0, Nat.zero_le _, rfl, rfl, b0, hB0⟩
  case round =>
    clear b0 hB0
    obtain ⟨k, hk, rfl, hno, bR, hB⟩ := hrel
    by_cases hlt : k < n
    · have hx : L[k]? = some (L[k]'(by rw [HL.out]; exact hlt)) := List.getElem?_eq_getElem _
      obtain ⟨x, hxe⟩ : ∃ x, L[k]'(by rw [HL.out]; exact hlt) = x := ⟨_, rfl⟩
      rw [hxe] at hx
      have hAr := isP.keep HA.out (by rw [Hg.out]; exact hB)
      obtain ⟨ab, ao, rfl, hal, hr, hld⟩ := isP.at hAr hx
      have c0 := hr 0 _ rfl
      have c1 := hr 1 _ rfl
      have c2 := hr 2 _ rfl
      have c3 := hr 3 _ rfl
      have c4 := hr 4 _ rfl
      have c5 := hr 5 _ rfl
      have c6 := hr 6 _ rfl
      have c7 := hr 7 _ rfl
      have c8 := hr 8 _ rfl
      have c9 := hr 9 _ rfl
      rw [Nat.add_zero] at c0
      clear hr
      have hmem := List.mem_of_getElem? hx
      have hstep : Hid (q x = false → (L.take (k + 1)).find? q = none) := fun h => by rw [find_step hx hno.out, h]; rfl
      have hyes : Hid (q x = true → L.find? q = some x) := fun h => find_yes hx hno.out h
      have hgs := bR.lt
      have hB1 := hB.alloc (by omega) (.cells #[.string x.s, .int .i64 x.a, .int .i64 x.b, .int .i64 x.z, .slice x.A4 x.n4 x.c4, .int .i64 x.e, .int .i64 x.f, .slice x.A7 x.n7 x.c7, .slice x.A8 x.n8 x.c8, .slice x.A9 x.n9 x.c9] 42)
      have HC := Lib.hid (HN.out x (wr.alloc (.cells #[.string x.s, .int .i64 x.a, .int .i64 x.b, .int .i64 x.z, .slice x.A4 x.n4 x.c4, .int .i64 x.e, .int .i64 x.f, .slice x.A7 x.n7 x.c7, .slice x.A8 x.n8 x.c8, .slice x.A9 x.n9 x.c9] 42)) hmem (by rw [Hg.out]; exact hB1))
      have bR1 := bR.alloc (.cells #[.string x.s, .int .i64 x.a, .int .i64 x.b, .int .i64 x.z, .slice x.A4 x.n4 x.c4, .int .i64 x.e, .int .i64 x.f, .slice x.A7 x.n7 x.c7, .slice x.A8 x.n8 x.c8, .slice x.A9 x.n9 x.c9] 42)
      have bX := BoxN.new wr 42 #[.string x.s, .int .i64 x.a, .int .i64 x.b, .int .i64 x.z, .slice x.A4 x.n4 x.c4, .int .i64 x.e, .int .i64 x.f, .slice x.A7 x.n7 x.c7, .slice x.A8 x.n8 x.c8, .slice x.A9 x.n9 x.c9]
      clear hx hxe hno hAr bR
      go_wp2_with fail
      (with_reducible refine (HC.out).mono ?_); rintro _ w1 ⟨rfl, hb1⟩
      replace bR1 := bR1.keep hb1
      replace bX := bX.keep hb1
      have hB2 := hB1.trans (hb1.mono (by simp; omega))
      clear hb1 hB1 HC c0 c1 c2 c3 c4 c5 c6 c7 c8 c9 hld
      cases hq : q x with
      | false =>
        have hno2 := Lib.hid (hstep.out hq)
        clear hstep hyes hq bX
        go_wp2_with fail
        go_roundw
        case rel => exact ⟨k + 1, by omega, by go_num, hno2.out, bR1, hB2⟩
        case measure => simp [intOf]; omega
      | true =>
        have hres := Lib.hid (hyes.out hq)
        clear hstep hyes hq
        obtain ⟨ar, har⟩ : ∃ ar : Array Value, #[.string x.s, .int .i64 x.a, .int .i64 x.b, .int .i64 x.z, .slice x.A4 x.n4 x.c4, .int .i64 x.e, .int .i64 x.f, .slice x.A7 x.n7 x.c7, .slice x.A8 x.n8 x.c8, .slice x.A9 x.n9 x.c9] = ar := ⟨_, rfl⟩
        have hi : (Try.prog.info? 42).map (·.size) = some ar.size := by rw [← har]; exact info_pt
        have ho : ar.all (·.oneCell') = true := by rw [← har]; simp [Value.oneCell']
        have hs : (#[.string ⟨#[]⟩, .int .i64 0, .int .i64 0, .int .i64 0, .slice none 0 0, .int .i64 0, .int .i64 0, .slice none 0 0, .slice none 0 0, .slice none 0 0] : Array Value).size = ar.size := by rw [← har]; rfl
        rw [har] at bX
        have b0' : w1.heap[g]? = some (.cells #[.string ⟨#[]⟩, .int .i64 0, .int .i64 0, .int .i64 0, .slice none 0 0, .int .i64 0, .int .i64 0, .slice none 0 0, .slice none 0 0, .slice none 0 0] 42 (0, 0)) := bR1
        have b1' : w1.heap[wr.heap.size]? = some (.cells ar 42 (0, 0)) := bX
        have b2' : (w1.setRow g ar).heap[g]? = some (.cells ar 42 (0, 0)) := bR1.setRow ar
        have hB3 := below_setRow hB2 (Nat.le_refl g) ar
        clear bR1 bX hB2
        have Har := Lib.hid har
        clear har
        go_wp2_with (first | (refine wpList_load_row rfl 42 _ rfl wr.heap.size rfl _ ar _ _ b1' Try.underlying42 rfl hi ?_) | (refine wpList_store_rowTo rfl 42 _ _ rfl rfl g ar rfl rfl _ #[.string ⟨#[]⟩, .int .i64 0, .int .i64 0, .int .i64 0, .slice none 0 0, .int .i64 0, .int .i64 0, .slice none 0 0, .slice none 0 0, .slice none 0 0] b0' hi hs ho ?_))
        exact bodyPost_ret (v := .tuple #[.agg ar, .bool true]) (results_row_tmp Try.results47 _ _ g _ ar _ _ rfl b2' Try.underlying42 rfl hi) rfl ⟨by rw [hres.out, ← Har.out]; rfl, by rw [Hg.out]; exact hB3⟩
    · obtain rfl : k = n := by omega
      have hres : Hid (L.find? q = none) := by
        have := hno.out
        rwa [List.take_of_length_le (by rw [HL.out]; exact Nat.le_refl _)] at this
      have hgs := bR.lt
      have bR1 := bR.alloc (.cells #[.string ⟨#[]⟩, .int .i64 0, .int .i64 0, .int .i64 0, .slice none 0 0, .int .i64 0, .int .i64 0, .slice none 0 0, .slice none 0 0, .slice none 0 0] 42)
      have hB1 := hB.alloc (by omega) (.cells #[.string ⟨#[]⟩, .int .i64 0, .int .i64 0, .int .i64 0, .slice none 0 0, .int .i64 0, .int .i64 0, .slice none 0 0, .slice none 0 0, .slice none 0 0] 42)
      have bX := BoxN.new wr 42 #[.string ⟨#[]⟩, .int .i64 0, .int .i64 0, .int .i64 0, .slice none 0 0, .int .i64 0, .int .i64 0, .slice none 0 0, .slice none 0 0, .slice none 0 0]
      obtain ⟨ar, har⟩ : ∃ ar : Array Value, #[.string ⟨#[]⟩, .int .i64 0, .int .i64 0, .int .i64 0, .slice none 0 0, .int .i64 0, .int .i64 0, .slice none 0 0, .slice none 0 0, .slice none 0 0] = ar := ⟨_, rfl⟩
      have hi : (Try.prog.info? 42).map (·.size) = some ar.size := by rw [← har]; exact info_pt
      have ho : ar.all (·.oneCell') = true := by rw [← har]; simp [Value.oneCell']
      have hs : ar.size = ar.size := rfl
      rw [har] at bR1 bX hB1 hz
      clear bR hno
      obtain ⟨w1, hw1⟩ : ∃ w1, wr.alloc (.cells ar 42) = w1 := ⟨_, rfl⟩
      rw [hw1] at bR1 bX hB1
      have b0' : w1.heap[g]? = some (.cells ar 42 (0, 0)) := bR1
      have b1' : w1.heap[wr.heap.size]? = some (.cells ar 42 (0, 0)) := bX
      have b2' : (w1.setRow g ar).heap[g]? = some (.cells ar 42 (0, 0)) := bR1.setRow ar
      have hB3 := below_setRow hB1 (Nat.le_refl g) ar
      clear bR1 bX hB1 hB
      have Har := Lib.hid har
      clear har
      go_wp2_with (first | (refine wpList_load_row rfl 42 _ rfl wr.heap.size rfl _ ar _ _ b1' Try.underlying42 rfl hi ?_) | (refine wpList_store_rowTo rfl 42 _ _ rfl rfl g ar rfl rfl _ ar b0' hi hs ho ?_))
      exact bodyPost_ret (v := .tuple #[.agg ar, .bool false]) (results_row_tmp Try.results47 _ _ g _ ar _ _ rfl b2' Try.underlying42 rfl hi) rfl ⟨by rw [hres.out, ← Har.out]; rfl, by rw [Hg.out]; exact hB3⟩
end Me
end Go.Proofs.Ytdhofaiogbpjpaa
