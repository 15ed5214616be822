/- Valid. -/
import Derived.Test.YtdhofaiogbpjpaaSzv
import Derived.Test.YtdhofaiogbpjpaaRow
namespace Go.Proofs.Ytdhofaiogbpjpaa
open Go.RowKit Go.Joins
namespace Me
theorem vldR_yes {L : List Rg} {mem : Int} (h : Vld L mem) : vldR L mem = true := by unfold vldR; simpa using h
theorem vldR_no {L : List Rg} {mem : Int} (h : ¬ Vld L mem) : vldR L mem = false := by unfold vldR; simpa using h
theorem fdB_take {L : List Rg} {q : Rg → Bool} {k : Nat} : fdB q (L.take k) = false ↔ ∀ (j : Nat) (x : Rg), j < k → L[j]? = some x → q x = false := by
  unfold fdB
  rw [Option.isSome_eq_false_iff, Option.isNone_iff_eq_none, List.find?_eq_none]
  constructor
  · intro h j x hj hx
    have := h x (List.mem_of_getElem? (i := j) (by rw [List.getElem?_take_of_lt hj]; exact hx))
    simpa using this
  · intro h x hx
    obtain ⟨j, hj⟩ := List.getElem?_of_mem hx
    rw [List.getElem?_take] at hj
    split at hj
    · rename_i hlt
      simpa using h j x hlt hj
    · cases hj
set_option maxRecDepth 100000 in
set_option maxHeartbeats 8000000 in
theorem valid_any (A : Option Addr) (c n : Nat) (L : List Rg) (hn : L.length = n) (hc : n ≤ c) (hbd : Bd L) (mem : Int) (w : World) (hA : isG A L w) :
    Calls Try.prog 18 #[.slice A n c, .int .i64 mem] w fun e w' => e = .returned (.bool (vldR L mem)) ∧ Below w.heap.size w w' := by
  have HS : Hid (∀ W : World, _) := fun W => isSize_any mem W
  have HA := Lib.hid hA
  have HL := Lib.hid hn
  have HN : Hid (¬ Vld L mem → vldR L mem = false) := vldR_no
  have HY : Hid (Vld L mem → vldR L mem = true) := vldR_yes
  generalize vldR L mem = r at *
  clear hA hn
  cases hm : szOk mem with
  | false =>
    have hf := Lib.hid (HN.out fun h => by rw [h.1] at hm; cases hm)
    rw [hm] at HS
    clear HN HY
    go_enter Try.func18, Try.ntmps18
    go_wp2_with fail
    (with_reducible refine (HS.out _).mono ?_); rintro e w1 ⟨rfl, rfl⟩
    go_wp2_with fail
    go_ret
    exact ⟨by rw [hf.out]; rfl, Below.refl _ _⟩
  | true =>
  rw [hm] at HS
  by_cases h6 : n ≤ 6
  · have h6' : ¬ (6 : Int) < n := by omega
    have hm01 : 0 ≤ mem ∧ mem ≤ 4096 := by
      unfold szOk at hm; simpa using hm
    have HO : Hid (∀ (x : Rg) (W : World), x ∈ L → _) := fun x W hx => fits_any x mem W hm01.1 hm01.2 (hbd x hx).2.1.2
    have Hm := Lib.hid hm
    have HY2 : Hid (vldK L mem n → r = true) := fun h => HY.out ⟨Hm.out, by rw [HL.out]; exact h6, by rw [HL.out]; exact h⟩
    have HN2 : Hid (¬ vldK L mem n → r = false) := fun h => HN.out fun v => h (by have := v.2.2; rwa [HL.out] at this)
    clear HN HY hbd hm hm01
    go_enter Try.func18, Try.ntmps18
    go_wp2_with fail
    (with_reducible refine (HS.out _).mono ?_); rintro e w1 ⟨rfl, rfl⟩
    clear HS
    go_wp2_with fail
    go_loopw [19] (fun i wr => ∃ k : Nat, k ≤ n ∧ i = .int .i64 k ∧ Hid (vldK L mem k) ∧ Below w1.heap.size w1 wr)
      (fun i _ => n - (intOf i).toNat)
    case atStart => exact ⟨0, Nat.zero_le _, rfl, fun i r hi => absurd hi (Nat.not_lt_zero i), Below.refl _ _⟩
    case round =>
      obtain ⟨k, hk, rfl, hv, hB⟩ := hrel
      by_cases hlt : k < n
      · have hx : L[k]? = some (L[k]'(by rw [HL.out]; exact hlt)) := List.getElem?_eq_getElem _
        obtain ⟨x, hxe⟩ : ∃ x, L[k]'(by rw [HL.out]; exact hlt) = x := ⟨_, rfl⟩
        rw [hxe] at hx
        obtain ⟨ab, ao, rfl, hal, c0, c1, c2⟩ := isG.at (HA.out.keep hB) hx
        have hmx := List.mem_of_getElem? hx
        have hld := load_rg ⟨c0, c1, c2⟩
        have Hx := Lib.hid hx
        have HOx := Lib.hid (fun W => HO.out x W hmx)
        have hbx := BoxN.new wr 45 #[.int .i64 x.p, .int .i64 x.b, .int .i64 x.s]
        have hBs := hB.size
        have hB1 := hB.alloc hBs (.cells #[.int .i64 x.p, .int .i64 x.b, .int .i64 x.s] 45)
        have Hp : Hid ((x.p != k) = true → r = false) := fun h => HN2.out fun v => by
          have := (v k x hlt Hx.out).1
          rw [this] at h; simp at h
        have Hf : Hid (fitR mem x = false → r = false) := fun h => HN2.out fun v => by
          rw [(v k x hlt Hx.out).2.1] at h; cases h
        cases hpk : (x.p != k) with
        | true =>
          have hf := Lib.hid (Hp.out hpk)
          clear Hp Hf HOx hbx
          obtain ⟨p, b, s⟩ := x
          simp only at *
          go_wp2_with fail
          go_ret
          exact ⟨by rw [hf.out]; rfl, hB1⟩
        | false =>
          have hpe : x.p = k := by simpa using hpk
          clear Hp hpk
          obtain ⟨p, b, s⟩ := x
          simp only at *
          subst hpe
          cases hfi : fitR mem ⟨(k : Nat), b, s⟩ with
          | false =>
            have hf := Lib.hid (Hf.out hfi)
            rw [hfi] at HOx
            clear Hf hbx hfi
            simp only [rgV] at HOx hld
            go_wp2_with fail
            (with_reducible refine (HOx.out _).mono ?_); rintro e w2 ⟨rfl, hb⟩
            have hB2 := hB1.trans (hb.mono (by simp; omega))
            clear hb hB1 c0 c1 c2 hld
            go_wp2_with fail
            go_ret
            exact ⟨by rw [hf.out]; rfl, hB2⟩
          | true =>
            have Hfi := Lib.hid hfi
            rw [hfi] at HOx
            have HF : Hid (∀ W, Below w1.heap.size w1 W → BoxN W wr.heap.size 45 #[.int .i64 (k : Nat), .int .i64 b, .int .i64 s] → _) := fun W hW hbW =>
              firstV_any (fun q => ovR q ⟨(k : Nat), b, s⟩) wr.heap.size (some ⟨ab, ao, none⟩) c k (L.take k) (by rw [List.length_take, HL.out]; omega) (by omega) W ((HA.out.keep hW).take k) (fun q W' hq hW' => vclos_any mem Hm.out q ⟨(k : Nat), b, s⟩ (by
                obtain ⟨j, hj⟩ := List.getElem?_of_mem hq
                rw [List.getElem?_take] at hj
                split at hj
                · rename_i hjk
                  exact (hv.out j q hjk hj).2.1
                · cases hj) Hfi.out wr.heap.size W' (hbW.keep hW'))
            have Hno : Hid (fdB (fun q => ovR q ⟨(k : Nat), b, s⟩) (L.take k) = true → r = false) := fun h => HN2.out fun v => by
              have h2 := (fdB_take (L := L) (k := k) (q := fun q => ovR q ⟨(k : Nat), b, s⟩)).2 fun j q hj hq => (v k _ hlt Hx.out).2.2 j q hj hq
              rw [h] at h2; cases h2
            have Hgo : Hid (fdB (fun q => ovR q ⟨(k : Nat), b, s⟩) (L.take k) = false → vldK L mem (k + 1)) := fun h => vldK_succ hv.out Hx.out rfl Hfi.out (fdB_take.1 h)
            change Hid (∀ W, _ → _ → Calls _ _ _ _ fun e w' => e = .returned (.tuple #[rgV (fdR (fun q => ovR q ⟨(k : Nat), b, s⟩) (L.take k)), .bool (fdB (fun q => ovR q ⟨(k : Nat), b, s⟩) (L.take k))]) ∧ _) at HF
            generalize fdB (fun q => ovR q ⟨(k : Nat), b, s⟩) (L.take k) = fb at *
            generalize fdR (fun q => ovR q ⟨(k : Nat), b, s⟩) (L.take k) = fr at *
            clear Hf hfi hv hx
            simp only [rgV] at HOx hld HF
            go_wp2_with fail
            (with_reducible refine (HOx.out _).mono ?_); rintro e w2 ⟨rfl, hb⟩
            have hB2 := hB1.trans (hb.mono (by simp; omega))
            replace hbx := hbx.keep hb
            have HF2 := Lib.hid (HF.out w2 hB2 hbx)
            clear hb hB1 c0 c1 c2 hld HOx HF hbx
            go_wp2_with fail
            (with_reducible refine (HF2.out).mono ?_); rintro e w3 ⟨rfl, hb⟩
            have hB3 := hB2.trans (hb.mono hB2.size)
            clear hb hB2 HF2
            obtain ⟨p', b', s'⟩ := fr
            have hB4 := hB3.alloc hB3.size (.cells #[.int .i64 p', .int .i64 b', .int .i64 s'] 45)
            cases fb with
            | true =>
              have hf := Lib.hid (Hno.out rfl)
              clear Hno Hgo
              go_wp2_with fail
              go_ret
              exact ⟨by rw [hf.out]; rfl, hB4⟩
            | false =>
              have hf := Lib.hid (Hgo.out rfl)
              clear Hno Hgo
              go_wp2_with fail
              go_roundw
              case rel => exact ⟨k + 1, by omega, by go_num, hf.out, hB4⟩
              case measure => simp [intOf]; omega
      · obtain rfl : k = n := by omega
        have hf := Lib.hid (HY2.out hv.out)
        go_wp2_with fail
        go_ret
        exact ⟨by rw [hf.out]; rfl, hB⟩
  · have h6' : (6 : Int) < n := by omega
    have hf := Lib.hid (HN.out fun h => h6 (by have := h.2.1; rw [HL.out] at this; exact this))
    clear HN HY
    go_enter Try.func18, Try.ntmps18
    go_wp2_with fail
    (with_reducible refine (HS.out _).mono ?_); rintro e w1 ⟨rfl, rfl⟩
    go_wp2_with fail
    go_ret
    exact ⟨by rw [hf.out]; rfl, Below.refl _ _⟩
end Me
end Go.Proofs.Ytdhofaiogbpjpaa
