/- Clear and Bytes. -/
import Derived.Test.YtdhofaiogbpjpaaMemF
namespace Go.Proofs.Ytdhofaiogbpjpaa
open Go.RowKit Go.Joins
namespace Me
theorem zero_u8 : ∀ w : World, (zeroValue 5).run Try.prog w = .ok (.int .u8 0) w := fun _ => by kernel_rfl
theorem fd_some {q : Rg → Bool} {L : List Rg} {r : Rg} (h : L.find? q = some r) : fdR q L = r ∧ fdB q L = true := fd_yes h
set_option maxRecDepth 100000 in
set_option maxHeartbeats 4000000 in
theorem clear_any {lo g : Nat} {L : List Rg} {mem : Nat} {f : Nat → BitVec 8} (hv : Vld L mem) (part : Int) (w : World) (h : MemS lo g L mem f w) : Calls Try.prog 25 #[.pointer (some ⟨g, 0, none⟩), .int .i64 part] w fun e w' => e = .returned (.int .i64 (clE L part)) ∧ MemS lo g L mem (clR L f part) w' ∧ Mv g w w' := by
  have HM := Lib.hid (made_any w h)
  obtain ⟨cs, A, c, h1, h2, h3, -⟩ := h.ex
  have hl := h1.lt
  have c0 := h1.cell 0
  rw [h2.regs] at c0
  have hn6 := hv.2.1
  have HF := Lib.hid (of_any A c L.length L rfl (by omega) part w h3)
  have hE : Hid (clE L part = if fdB (fun r => r.p == part) L = true then 0 else 6) := rfl
  have hR : Hid (L.find? (fun r => r.p == part) = none → clR L f part = f) := fun h => by unfold clR; rw [h]
  have hRs : Hid (∀ r, L.find? (fun r => r.p == part) = some r → clR L f part = fun j => if r.b.toNat ≤ j ∧ j < r.b.toNat + r.s.toNat then 0#8 else f j) := fun r h => by unfold clR; rw [h]
  have hfit : ∀ r, L.find? (fun r => r.p == part) = some r → 0 ≤ r.b ∧ 0 ≤ r.s ∧ r.b + r.s ≤ 4096 := fun r hf => find_fit hv hf
  generalize clR L f part = fr at *
  generalize clE L part = er at *
  have Hm := Lib.hid h
  clear h1 h2 h3 h
  cases hf : L.find? (fun r => r.p == part) with
  | none =>
    have hb0 := fd_no hf
    rw [hb0] at HF hE
    have hfr := Lib.hid (hR.out hf)
    have her := hE.out
    simp only [Bool.false_eq_true, if_false] at her
    subst her
    clear hf hR hRs hfit hE hb0
    generalize fdR (fun r => r.p == part) L = px at *
    generalize L.length = n at *
    obtain ⟨p, b, s⟩ := px
    simp only [rgV] at *
    go_enter Try.func25, Try.ntmps25
    go_wp2_with fail
    (with_reducible refine (HM.out).mono ?_); rintro _ w1 ⟨rfl, rfl⟩
    go_wp2_with fail
    (with_reducible refine (HF.out).mono ?_); rintro _ w2 ⟨rfl, hb⟩
    have hb2 := hb.alloc hb.size (.cells #[.int .i64 p, .int .i64 b, .int .i64 s] 45)
    have hm2 := Lib.hid (Hm.out.keep hb2)
    clear hb
    go_wp2_with fail
    go_ret
    exact ⟨rfl, by rw [hfr.out]; exact hm2.out, Mv.of hb2⟩
  | some r =>
    obtain ⟨hr1, hb0⟩ := fd_some hf
    rw [hb0, hr1] at HF
    rw [hb0] at hE
    obtain ⟨f1, f2, f3⟩ := hfit r hf
    have hfr := Lib.hid (hRs.out r hf)
    have her := hE.out
    simp only [if_true] at her
    subst her
    clear hf hR hRs hfit hE hb0 hr1
    obtain ⟨p, b, s⟩ := r
    simp only at f1 f2 f3 hfr
    obtain ⟨b, rfl⟩ := Int.eq_ofNat_of_zero_le f1
    obtain ⟨s, rfl⟩ := Int.eq_ofNat_of_zero_le f2
    have hbs : b + s ≤ 4096 := by omega
    have HO : Hid (∀ W : World, _) := fun W => own_any g p b s hbs W
    simp only [Int.toNat_natCast] at hfr
    generalize L.length = n at *
    simp only [rgV] at *
    go_enter Try.func25, Try.ntmps25
    go_wp2_with fail
    (with_reducible refine (HM.out).mono ?_); rintro _ w1 ⟨rfl, rfl⟩
    go_wp2_with fail
    (with_reducible refine (HF.out).mono ?_); rintro _ w2 ⟨rfl, hb⟩
    have hb2 := hb.alloc hb.size (.cells #[.int .i64 p, .int .i64 (b : Nat), .int .i64 (s : Nat)] 45)
    clear hb HF HM
    go_wp2_with fail
    (with_reducible refine (HO.out _).mono ?_); rintro _ w3 ⟨rfl, hb⟩
    have hb3 := hb2.trans (hb.mono hb2.size)
    clear hb hb2 HO c0
    obtain ⟨cs', A', c', h1, h2, h3, h4⟩ := (Hm.out.keep hb3).ex
    have hcl : Hid (MemS lo g L mem fr (w3.setRow g (cs'.toList.take (if s = 0 then 3 else 3 + b) ++ List.replicate s (Value.int .u8 0) ++ cs'.toList.drop ((if s = 0 then 3 else 3 + b) + s)).toArray)) := by
      unfold Hid
      rw [hfr.out]
      by_cases hs : s = 0
      · subst hs
        have e : (cs'.toList.take (if 0 = 0 then 3 else 3 + b) ++ List.replicate 0 (Value.int .u8 0) ++ cs'.toList.drop ((if 0 = 0 then 3 else 3 + b) + 0)).toArray = cs' := by simp
        rw [e]
        exact MemS.same (f := f) ⟨cs', A', c', h1.setRow _, h2, h3.same fun a e _ => setRow_other w3 g a.block _ (by have := h4 a e; omega), h4⟩ fun i _ => by
          rw [if_neg (by omega)]
      · rw [if_neg hs]
        exact ⟨_, A', c', h1.setRow _, h2.clear b s hbs, h3.same fun a e _ => setRow_other w3 g a.block _ (by have := h4 a e; omega), h4⟩
    have hmv := Lib.hid ((Mv.of (g := g) hb3).trans (Mv.setRow g w3 (cs'.toList.take (if s = 0 then 3 else 3 + b) ++ List.replicate s (Value.int .u8 0) ++ cs'.toList.drop ((if s = 0 then 3 else 3 + b) + s)).toArray))
    have hrun := run_clear_row (P := Try.prog) w3 55 5 0 (.int .u8 0) Try.underlying55 zero_u8 rfl rfl g (if s = 0 then 3 else 3 + b) s s cs' _ h1 (by rw [h2.size]; split <;> omega)
    clear h1 h2 h3 h4
    generalize w3.setRow g _ = w4 at *
    generalize (if s = 0 then 3 else 3 + b) = o at *
    go_wp2_with fail
    go_ret
    exact ⟨rfl, hcl.out, hmv.out⟩
theorem own_full {W : World} {base g n c sz : Nat} {t : TypeId} {xs : List Value} (h : W.ownsRow base t sz (.slice (some ⟨g, 0, none⟩) n c) n xs) : ∃ cur : Array Value, W.heap[g]? = some (.cells cur t (0, 0)) ∧ n * sz ≤ cur.size := by
  rcases h.2 with ⟨h0, _⟩ | ⟨g', cap, cur, h0, hgb, hg, hca, hcur, hfz, hx⟩
  · cases h0
  · simp only [Value.slice.injEq, Option.some.injEq, Addr.mk.injEq, and_true, true_and] at h0
    obtain ⟨rfl, rfl⟩ := h0
    refine ⟨cur, hg, ?_⟩
    have h1 := h.1
    have h2 := congrArg List.length hx
    rw [List.length_take, Array.length_toList] at h2
    omega
/-- The bytes of a memory. -/
def bysR (mem : Nat) (f : Nat → BitVec 8) : List (BitVec 8) := (List.range mem).map f
theorem bysR_len (mem : Nat) (f : Nat → BitVec 8) : (bysR mem f).length = mem := by simp [bysR]
theorem bysR_get (mem : Nat) (f : Nat → BitVec 8) (k : Nat) (h : k < mem) : (bysR mem f)[k]? = some (f k) := by simp [bysR, h]
set_option maxRecDepth 100000 in
set_option maxHeartbeats 4000000 in
theorem bytes_any {lo g : Nat} {L : List Rg} {mem : Nat} {f : Nat → BitVec 8} (hm : mem ≤ 4096) (w : World) (h : MemS lo g L mem f w) : Calls Try.prog 23 #[.pointer (some ⟨g, 0, none⟩)] w fun e w' => ∃ b, e = .returned (.slice (some ⟨b, 0, none⟩) mem mem) ∧ w.heap.size ≤ b ∧ isB (some ⟨b, 0, none⟩) (bysR mem f) w' ∧ Below w.heap.size w w' := by
  obtain ⟨i0, hi, hz0, hz1, hz2⟩ := info_parts infoB
  have HM := Lib.hid (made_any w h)
  obtain ⟨cs, A, c, h1, h2, h3, -⟩ := h.ex
  have hl := h1.lt
  have c2 := h1.cell 2
  rw [h2.mem] at c2
  have hsl := fun W => slice_all g W
  have hmin : Nat.min 4096 mem = mem := by show min 4096 mem = mem; omega
  have Hm := Lib.hid h
  have hcl : (cellsB (bysR mem f)).length = mem := by rw [cellsB_len, bysR_len]
  have hone := cellsB_one (bysR mem f)
  have HH : Hid (∀ k z, (bysR mem f)[k]? = some z → (cellsB (bysR mem f))[k]? = some (U8 z)) := fun k z hk => by rw [cellsB_get, hk]; rfl
  have hsrcg : Hid (∀ W, Below w.heap.size w W → ∀ (j : Nat) (v : Value), (cellsB (bysR mem f))[j]? = some v → W.cell? ((⟨g, 3, none⟩ : Addr).add j) = some v) := fun W hW j v hj => by
    rw [Addr.add_lit]
    have hjm : j < mem := by rw [← hcl]; exact (List.getElem?_eq_some_iff.1 hj).1
    rw [cellsB_get, bysR_get mem f j hjm] at hj
    rw [(h1.keep hW).cell, h2.byte j (by omega)]
    exact hj
  obtain ⟨xs, hxs⟩ : ∃ xs, cellsB (bysR mem f) = xs := ⟨_, rfl⟩
  rw [hxs] at hcl hone HH hsrcg
  clear h1 h2 h3 h hxs
  have hone2 := Lib.hid hone
  go_enter Try.func23, Try.ntmps23
  go_wp2_with fail
  (with_reducible refine (HM.out).mono ?_); rintro _ w1 ⟨rfl, rfl⟩
  have h8 : (Try.prog.info? 5).map (·.size) = some 1 := by kernel_rfl
  have hlen9 : xs.length = Nat.min 4096 mem := by rw [hcl, hmin]
  go_wp2_with (first
    | (refine wpList_make_full _ rfl _ _ 55 rfl w1.heap.size 5 i0 _ 1 Try.underlying55 hi hz0 hz1 .i64 .i64 _ _ mem rfl rfl rfl rfl (by rw [hz2]; omega) (by unfold maxLen; omega) (Nat.le_refl _) ?_; intro w2 hown2 hg2; obtain ⟨cur, hg, hcur⟩ := own_full hown2; have hB2 : Below w1.heap.size w1 w2 := (Below.refl _ _).grown hg2 (Nat.le_refl _) (fun _ h => by cases h); have hsrc := hsrcg.out w2 hB2; have hfit : 0 + xs.length ≤ cur.size := by omega)
    | (refine wpList_copy_own rfl (.tmp 12) (.tmp 16) 55 55 rfl 5 Try.underlying55 h8 w1.heap.size 0 mem mem ⟨g, 3, none⟩ 4096 4096 rfl rfl cur _ hg xs hlen9 hsrc hfit hone2.out ?_))
  have bN : BoxN w2 w1.heap.size 5 cur := hg
  have bN2 := bN.setRow (cur.toList.take 0 ++ (xs ++ cur.toList.drop (0 + xs.length))).toArray
  have hB3 := below_setRow hB2 (Nat.le_refl w1.heap.size) (cur.toList.take 0 ++ (xs ++ cur.toList.drop (0 + xs.length))).toArray
  have hisB : Hid (isB (some ⟨w1.heap.size, 0, none⟩) (bysR mem f) (w2.setRow w1.heap.size (cur.toList.take 0 ++ (xs ++ cur.toList.drop (0 + xs.length))).toArray)) := fun hne => ⟨w1.heap.size, 0, rfl, bN2.lt, fun k z hk => by
    have hk2 := HH.out k z hk
    have hkl : k < xs.length := (List.getElem?_eq_some_iff.1 hk2).1
    have h9 := bN2.cell k
    rw [List.getElem?_toArray, List.take_zero, List.nil_append, List.getElem?_append_left hkl, hk2] at h9
    rw [show 0 + k = k from Nat.zero_add k]
    exact h9⟩
  have e9 : cur.toList.take 0 ++ (xs ++ cur.toList.drop (0 + xs.length)) = xs ++ cur.toList.drop mem := by rw [List.take_zero, List.nil_append, Nat.zero_add, hcl]
  rw [e9] at hisB hB3
  go_ret
  exact ⟨_, rfl, Nat.le_refl _, hisB.out, hB3⟩
end Me
end Go.Proofs.Ytdhofaiogbpjpaa
