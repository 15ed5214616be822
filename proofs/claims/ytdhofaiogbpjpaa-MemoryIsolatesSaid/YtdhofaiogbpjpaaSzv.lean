/- sizesValid; of, around, translate, Translate, Owner and the reference's. -/
import Derived.Test.YtdhofaiogbpjpaaFirst
namespace Go.Proofs.Ytdhofaiogbpjpaa
open Go.RowKit Go.Joins
namespace Me
theorem find_all (L : List Pt) : (L.find? fun p => !szOk p.z).isSome = !((L.map Pt.z).all szOk) := by
  induction L with
  | nil => rfl
  | cons x L ih =>
    cases h : szOk x.z <;> simp [h, ih]
set_option maxRecDepth 100000 in
set_option maxHeartbeats 4000000 in
theorem sizes_any (s : ByteArray) (mem fr : Int) (A : Option Addr) (c n : Nat) (L : List Pt) (hn : L.length = n) (w : World) (hA : isP A L w) :
    Calls Try.prog 35 #[mdV s mem fr A n c] w fun e w' => e = .returned (.bool (modOk mem (L.map Pt.z))) ∧ Below w.heap.size w w' := by
  have HS : Hid (∀ W : World, _) := fun W => isSize_any mem W
  have HF : Hid (∀ (h : n ≤ 6) (W : World), Below w.heap.size w W → _) := fun h W hW => firstP_any (fun p => !szOk p.z) A c n L hn (by omega) W (hA.keep hW) (fun x W' _ _ => sclos_any x W')
  have hm : Hid (modOk mem (L.map Pt.z) = (szOk mem && (decide (n ≤ 6) && !(L.find? fun p => !szOk p.z).isSome))) := by
    unfold Hid modOk; rw [find_all, List.length_map, hn, Bool.not_not]
  clear hA hn
  generalize (L.find? fun p => !szOk p.z).isSome = q at *
  generalize (L.find? fun p => !szOk p.z).getD pt0 = px at *
  obtain ⟨r, hr⟩ : ∃ r, modOk mem (L.map Pt.z) = r := ⟨_, rfl⟩
  rw [hr] at hm ⊢
  clear hr
  have hB1 : Below w.heap.size w (w.alloc (.cells #[.string s, .int .i64 mem, .int .i64 fr, .slice A n c] 24)) := (Below.refl _ w).alloc (Nat.le_refl _) _
  have HB := Lib.hid hB1
  clear hB1
  simp only [mdV]
  go_enter Try.func35, Try.ntmps35
  go_wp2_with fail
  (with_reducible refine (HS.out _).mono ?_); rintro e w1 ⟨rfl, rfl⟩
  cases h1 : szOk mem with
  | false =>
    have hf : Hid (r = false) := by unfold Hid; rw [hm.out, h1]; rfl
    go_wp2_with fail
    go_ret
    exact ⟨by rw [hf.out]; rfl, HB.out⟩
  | true =>
  by_cases h6 : n ≤ 6
  · have h6' : ¬ (6 : Int) < n := by omega
    have hf : Hid (r = !q) := by unfold Hid; rw [hm.out, h1, decide_eq_true h6]; rfl
    have HF2 := Lib.hid (HF.out h6 _ HB.out)
    clear HF h6 hm h1 HS
    go_wp2_with fail
    (with_reducible refine (HF2.out).mono ?_); rintro e w1 ⟨rfl, hb⟩
    have hB2 := HB.out.trans (hb.mono HB.out.size)
    clear hb HB HF2
    obtain ⟨s', a', b', z', A4, n4, c4, e', f', A7, n7, c7, A8, n8, c8, A9, n9, c9⟩ := px
    simp only [ptV, ptC]
    go_wp2_with fail
    go_ret
    exact ⟨by rw [hf.out]; rfl, hB2.alloc hB2.size _⟩
  · have h6' : (6 : Int) < n := by omega
    have hf : Hid (r = false) := by unfold Hid; rw [hm.out, decide_eq_false h6]; simp
    go_wp2_with fail
    go_ret
    exact ⟨by rw [hf.out]; rfl, HB.out⟩
/-- What a search answers. -/
def fdR (q : Rg → Bool) (L : List Rg) : Rg := (L.find? q).getD rg0
def fdB (q : Rg → Bool) (L : List Rg) : Bool := (L.find? q).isSome
set_option maxRecDepth 100000 in
set_option maxHeartbeats 4000000 in
theorem of_any (A : Option Addr) (c n : Nat) (L : List Rg) (hn : L.length = n) (hn1 : n ≤ 1000000000) (part : Int) (w : World) (hA : isG A L w) :
    Calls Try.prog 43 #[.slice A n c, .int .i64 part] w fun e w' => e = .returned (.tuple #[rgV (fdR (fun r => r.p == part) L), .bool (fdB (fun r => r.p == part) L)]) ∧ Below w.heap.size w w' := by
  have hz : ∀ w : World, (zeroValue 45).run Try.prog w = .ok (.agg #[.int .i64 0, .int .i64 0, .int .i64 0]) w := fun _ => by kernel_rfl
  have b0 : BoxN ((w.alloc (.cells #[.int .i64 part] 3)).alloc (.cells #[.int .i64 0, .int .i64 0, .int .i64 0] 45)) w.heap.size 3 #[.int .i64 part] := (BoxN.new w 3 #[.int .i64 part]).alloc _
  have b1 : BoxN ((w.alloc (.cells #[.int .i64 part] 3)).alloc (.cells #[.int .i64 0, .int .i64 0, .int .i64 0] 45)) (w.heap.size + 1) 45 #[.int .i64 0, .int .i64 0, .int .i64 0] := by
    have := BoxN.new (w.alloc (.cells #[.int .i64 part] 3)) 45 #[.int .i64 0, .int .i64 0, .int .i64 0]
    rwa [World.size_alloc] at this
  have hB : Below w.heap.size w ((w.alloc (.cells #[.int .i64 part] 3)).alloc (.cells #[.int .i64 0, .int .i64 0, .int .i64 0] 45)) := ((Below.refl _ w).alloc (Nat.le_refl _) _).alloc (by simp) _
  have HF := Lib.hid (firstO_any (fun r => r.p == part) w.heap.size A c n L hn hn1 _ (hA.keep hB) (fun x W _ hW => oclos_any x part w.heap.size W (b0.keep hW)))
  unfold fdR fdB
  generalize (L.find? fun r => r.p == part).isSome = q at *
  generalize (L.find? fun r => r.p == part).getD rg0 = px at *
  obtain ⟨p, b, s⟩ := px
  simp only [rgV] at *
  clear hA hn b0
  go_enter Try.func43, Try.ntmps43
  go_wp2_with fail
  (with_reducible refine (HF.out).mono ?_); rintro e w1 ⟨rfl, hb⟩
  replace b1 := b1.keep hb
  have hB2 := hB.trans (hb.mono hB.size)
  clear hb hB HF
  have b1' : w1.heap[w.heap.size + 1]? = some (.cells #[.int .i64 0, .int .i64 0, .int .i64 0] 45 (0, 0)) := b1
  have b2' : (w1.setRow (w.heap.size + 1) #[.int .i64 p, .int .i64 b, .int .i64 s]).heap[w.heap.size + 1]? = some (.cells #[.int .i64 p, .int .i64 b, .int .i64 s] 45 (0, 0)) := b1.setRow _
  have hB3 := below_setRow hB2 (Nat.le_succ w.heap.size) #[.int .i64 p, .int .i64 b, .int .i64 s]
  clear b1 hB2
  go_wp2_with (refine wpList_store_rowTo rfl 45 _ _ rfl rfl (w.heap.size + 1) #[.int .i64 p, .int .i64 b, .int .i64 s] rfl rfl _ #[.int .i64 0, .int .i64 0, .int .i64 0] b1' info_rg rfl (by simp [Value.oneCell']) ?_)
  exact bodyPost_ret (v := .tuple #[.agg #[.int .i64 p, .int .i64 b, .int .i64 s], .bool q]) (results_row_tmp Try.results43 _ _ (w.heap.size + 1) _ _ _ _ rfl b2' Try.underlying45 rfl info_rg) rfl ⟨rfl, hB3⟩
set_option maxRecDepth 100000 in
set_option maxHeartbeats 4000000 in
theorem around_any (A : Option Addr) (c n : Nat) (L : List Rg) (hn : L.length = n) (hn1 : n ≤ 1000000000) (part : Int) (w : World) (hA : isG A L w) :
    Calls Try.prog 33 #[.slice A n c, .int .i64 part] w fun e w' => e = .returned (.tuple #[rgV (fdR (inR part) L), .bool (fdB (inR part) L)]) ∧ Below w.heap.size w w' := by
  have hz : ∀ w : World, (zeroValue 45).run Try.prog w = .ok (.agg #[.int .i64 0, .int .i64 0, .int .i64 0]) w := fun _ => by kernel_rfl
  have b0 : BoxN ((w.alloc (.cells #[.int .i64 part] 3)).alloc (.cells #[.int .i64 0, .int .i64 0, .int .i64 0] 45)) w.heap.size 3 #[.int .i64 part] := (BoxN.new w 3 #[.int .i64 part]).alloc _
  have b1 : BoxN ((w.alloc (.cells #[.int .i64 part] 3)).alloc (.cells #[.int .i64 0, .int .i64 0, .int .i64 0] 45)) (w.heap.size + 1) 45 #[.int .i64 0, .int .i64 0, .int .i64 0] := by
    have := BoxN.new (w.alloc (.cells #[.int .i64 part] 3)) 45 #[.int .i64 0, .int .i64 0, .int .i64 0]
    rwa [World.size_alloc] at this
  have hB : Below w.heap.size w ((w.alloc (.cells #[.int .i64 part] 3)).alloc (.cells #[.int .i64 0, .int .i64 0, .int .i64 0] 45)) := ((Below.refl _ w).alloc (Nat.le_refl _) _).alloc (by simp) _
  have HF := Lib.hid (firstA_any (inR part) w.heap.size A c n L hn hn1 _ (hA.keep hB) (fun x W _ hW => aclos_any x part w.heap.size W (b0.keep hW)))
  unfold fdR fdB
  generalize (L.find? (inR part)).isSome = q at *
  generalize (L.find? (inR part)).getD rg0 = px at *
  obtain ⟨p, b, s⟩ := px
  simp only [rgV] at *
  clear hA hn b0
  go_enter Try.func33, Try.ntmps33
  go_wp2_with fail
  (with_reducible refine (HF.out).mono ?_); rintro e w1 ⟨rfl, hb⟩
  replace b1 := b1.keep hb
  have hB2 := hB.trans (hb.mono hB.size)
  clear hb hB HF
  have b1' : w1.heap[w.heap.size + 1]? = some (.cells #[.int .i64 0, .int .i64 0, .int .i64 0] 45 (0, 0)) := b1
  have b2' : (w1.setRow (w.heap.size + 1) #[.int .i64 p, .int .i64 b, .int .i64 s]).heap[w.heap.size + 1]? = some (.cells #[.int .i64 p, .int .i64 b, .int .i64 s] 45 (0, 0)) := b1.setRow _
  have hB3 := below_setRow hB2 (Nat.le_succ w.heap.size) #[.int .i64 p, .int .i64 b, .int .i64 s]
  clear b1 hB2
  go_wp2_with (refine wpList_store_rowTo rfl 45 _ _ rfl rfl (w.heap.size + 1) #[.int .i64 p, .int .i64 b, .int .i64 s] rfl rfl _ #[.int .i64 0, .int .i64 0, .int .i64 0] b1' info_rg rfl (by simp [Value.oneCell']) ?_)
  exact bodyPost_ret (v := .tuple #[.agg #[.int .i64 p, .int .i64 b, .int .i64 s], .bool q]) (results_row_tmp Try.results33 _ _ (w.heap.size + 1) _ _ _ _ rfl b2' Try.underlying45 rfl info_rg) rfl ⟨rfl, hB3⟩
theorem trR_eq (L : List Rg) (part addr : Int) : trR L part addr = (if fdB (fun r => r.p == part) L = true then (if addr < 0 ∨ (fdR (fun r => r.p == part) L).s ≤ addr then (0, 110) else (wrap64 ((fdR (fun r => r.p == part) L).b + addr), 0)) else (0, 6)) := by
  unfold trR fdB fdR
  cases L.find? fun r => r.p == part <;> simp
theorem owR_eq (L : List Rg) (at' : Int) : owR L at' = (if fdB (inR at') L = true then ((fdR (inR at') L).p, wrap64 (at' - (fdR (inR at') L).b), true) else (0, 0, false)) := by
  unfold owR fdB fdR
  cases L.find? (inR at') <;> simp
set_option maxRecDepth 100000 in
set_option maxHeartbeats 4000000 in
theorem translate_any (A : Option Addr) (c n : Nat) (L : List Rg) (hn : L.length = n) (hn1 : n ≤ 1000000000) (part addr : Int) (w : World) (hA : isG A L w) :
    Calls Try.prog 32 #[.slice A n c, .int .i64 part, .int .i64 addr] w fun e w' => e = .returned (.tuple #[.int .i64 (trR L part addr).1, .int .i64 (trR L part addr).2]) ∧ Below w.heap.size w w' := by
  have HF := Lib.hid (of_any A c n L hn hn1 part w hA)
  have ht := Lib.hid (trR_eq L part addr)
  generalize trR L part addr = r at *
  generalize fdB (fun r => r.p == part) L = q at *
  generalize fdR (fun r => r.p == part) L = px at *
  obtain ⟨p, b, s⟩ := px
  simp only [rgV] at *
  clear hA hn
  go_enter Try.func32, Try.ntmps32
  go_wp2_with fail
  (with_reducible refine (HF.out).mono ?_); rintro e w1 ⟨rfl, hb⟩
  have hB2 := hb.alloc hb.size (.cells #[.int .i64 p, .int .i64 b, .int .i64 s] 45)
  clear hb HF
  cases q with
  | false =>
    have h0 := ht.out
    simp only [Bool.false_eq_true, if_false] at h0
    subst h0
    clear ht
    go_wp2_with fail
    go_ret2
    exact ⟨rfl, hB2⟩
  | true =>
    have h0 := ht.out
    simp only [if_true] at h0
    clear ht
    by_cases h1 : addr < 0
    · rw [if_pos (.inl h1)] at h0
      subst h0
      go_wp2_with fail
      go_ret2
      exact ⟨rfl, hB2⟩
    · by_cases h2 : s ≤ addr
      · rw [if_pos (.inr h2)] at h0
        subst h0
        go_wp2_with fail
        go_ret2
        exact ⟨rfl, hB2⟩
      · rw [if_neg (by omega)] at h0
        subst h0
        have d1 : decide (addr < 0) = false := decide_eq_false h1
        have d2 : decide (s ≤ addr) = false := decide_eq_false h2
        go_wp2_with fail
        go_ret2
        exact ⟨rfl, hB2⟩
set_option maxRecDepth 100000 in
set_option maxHeartbeats 4000000 in
theorem trans_any (A : Option Addr) (c n : Nat) (L : List Rg) (hn : L.length = n) (hn1 : n ≤ 1000000000) (part addr : Int) (w : World) (hA : isG A L w) :
    Calls Try.prog 12 #[.slice A n c, .int .i64 part, .int .i64 addr] w fun e w' => e = .returned (.tuple #[.int .i64 (trR L part addr).1, .int .i64 (trR L part addr).2]) ∧ Below w.heap.size w w' := by
  have HF := Lib.hid (translate_any A c n L hn hn1 part addr w hA)
  clear hA hn
  go_enter Try.func12, Try.ntmps12
  go_wp2_with fail
  (with_reducible refine (HF.out).mono ?_); rintro e w1 ⟨rfl, hb⟩
  go_wp2_with fail
  go_ret2
  exact ⟨rfl, hb⟩
set_option maxRecDepth 100000 in
set_option maxHeartbeats 4000000 in
theorem owner_any (A : Option Addr) (c n : Nat) (L : List Rg) (hn : L.length = n) (hn1 : n ≤ 1000000000) (at' : Int) (w : World) (hA : isG A L w) :
    Calls Try.prog 14 #[.slice A n c, .int .i64 at'] w fun e w' => e = .returned (.tuple #[.int .i64 (owR L at').1, .int .i64 (owR L at').2.1, .bool (owR L at').2.2]) ∧ Below w.heap.size w w' := by
  have HF := Lib.hid (around_any A c n L hn hn1 at' w hA)
  have ht := Lib.hid (owR_eq L at')
  generalize owR L at' = r at *
  generalize fdB (inR at') L = q at *
  generalize fdR (inR at') L = px at *
  obtain ⟨p, b, s⟩ := px
  simp only [rgV] at *
  clear hA hn
  go_enter Try.func14, Try.ntmps14
  go_wp2_with fail
  (with_reducible refine (HF.out).mono ?_); rintro e w1 ⟨rfl, hb⟩
  have hB2 := hb.alloc hb.size (.cells #[.int .i64 p, .int .i64 b, .int .i64 s] 45)
  clear hb HF
  cases q with
  | false =>
    have h0 := ht.out
    simp only [Bool.false_eq_true, if_false] at h0
    subst h0
    clear ht
    go_wp2_with fail
    go_ret3
    exact ⟨rfl, hB2⟩
  | true =>
    have h0 := ht.out
    simp only [if_true] at h0
    clear ht
    subst h0
    go_wp2_with fail
    go_quiet (fail)
    rename_i nq
    replace hB2 := below_drewN hB2 nq
    go_wp2_with fail
    go_ret3
    exact ⟨rfl, hB2⟩
end Me
end Go.Proofs.Ytdhofaiogbpjpaa
