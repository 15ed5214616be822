/- The contracts of examine, among and classes. -/
import Derived.Test.YthjpcafnbniafaaToks
namespace Go.Proofs.Ythjpcafnbniafaa
open Go.RowKit Go.Joins

set_option maxRecDepth 100000 in
set_option maxHeartbeats 1000000 in
theorem examine_any (l : List (BitVec 8)) (b f1 f2 k q o : Nat) (hq : q ≤ 3) (c : BitVec 8) (t : List (BitVec 8)) (ht : t.length ≤ 65536) (w : World) (hs : ScB w b f1 f2 l k) :
    Calls Try.prog 28 #[.pointer (some ⟨b, 0, none⟩), .agg #[.int .u8 q, .string (bstr (c :: t)), .int .i64 o]] w fun e w' => e = .returned (.int .i64 (tokE ⟨q, c :: t, o⟩)) ∧ Below w.heap.size w w' := by
  have hbs := bstr_size (c :: t)
  rw [List.length_cons] at hbs
  have hN : Hid (∀ W : World, ScB W b f1 f2 l k → Calls Try.prog 42 #[.pointer (some ⟨b, 0, none⟩), .string (bstr (c :: t))] W fun e w' => e = .returned (.bool (numOk (c :: t))) ∧ ∃ m, w' = W.drewN m) := fun W h => number_any l b f1 f2 k c t ht W h
  obtain ⟨y, hy⟩ : ∃ y, numOk (c :: t) = y := ⟨_, rfl⟩
  have hE : Hid (tokE ⟨q, c :: t, o⟩ = if q = 0 then 70 else if q = 1 ∧ 24 < t.length + 1 then 71 else if q = 2 ∧ y = false then 72 else 0) := by unfold Hid tokE; rw [hy]; rfl
  rw [hy] at hN
  obtain ⟨S, hS⟩ : ∃ S, bstr (c :: t) = S := ⟨_, rfl⟩
  rw [hS] at hbs hN ⊢
  generalize tokE ⟨q, c :: t, o⟩ = r at hE ⊢
  have hB0 : Below w.heap.size w (w.alloc (.cells #[.int .u8 q, .string S, .int .i64 o] 27)) := (Below.refl _ w).alloc (Nat.le_refl _) _
  have hbx := BoxN.new w 27 #[.int .u8 q, .string S, .int .i64 o]
  have hs0 := hs.keep hB0
  clear hS hy hs
  go_enter Try.func28, Try.ntmps28
  rcases (by omega : q = 0 ∨ q = 1 ∨ q = 2 ∨ q = 3) with rfl | rfl | rfl | rfl
  · go_wp2_with fail
    go_ret
    exact ⟨by rw [hE.out]; rfl, hB0⟩
  · by_cases h24 : 24 < t.length + 1
    · have hd : decide ((24 : Int) < (t.length : Int) + 1) = true := by simp; omega
      go_wp2_with fail
      go_ret
      exact ⟨by rw [hE.out]; simp [h24], hB0⟩
    · have hd : decide ((24 : Int) < (t.length : Int) + 1) = false := by simp; omega
      go_wp2_with fail
      go_ret
      exact ⟨by rw [hE.out]; simp [h24], hB0⟩
  · rw [show ((2 : Nat) : Int) = 2 from rfl] at hs0 hB0 ⊢
    cases y with
    | true =>
      go_wp2_with fail
      (with_reducible refine (hN.out _ hs0).mono ?_); rintro e w1 ⟨rfl, m, hw⟩
      have hB1 := below_drewN hB0 m
      rw [← hw] at hB1
      clear hw
      go_wp2_with fail
      go_ret
      exact ⟨by rw [hE.out]; rfl, hB1⟩
    | false =>
      go_wp2_with fail
      (with_reducible refine (hN.out _ hs0).mono ?_); rintro e w1 ⟨rfl, m, hw⟩
      have hB1 := below_drewN hB0 m
      rw [← hw] at hB1
      clear hw
      go_wp2_with fail
      go_ret
      exact ⟨by rw [hE.out]; rfl, hB1⟩
  · go_wp2_with fail
    go_ret
    exact ⟨by rw [hE.out]; rfl, hB0⟩

theorem among_any (S : ByteArray) (w : World) :
    Calls Try.prog 36 #[.string S] w fun e w' => e = .returned (.func (.func 43) #[] #[.pointer (some ⟨w.heap.size, 0, none⟩)]) ∧ w' = w.alloc (.cells #[.string S] 9) := by
  go_enter Try.func36, Try.ntmps36
  go_wp2
  go_ret
  exact ⟨rfl, rfl⟩

def clsA (f1 f2 : Nat) : Array Value := #[.func (.func 43) #[] #[.pointer (some ⟨f1, 0, none⟩)], .func (.func 37) #[] #[], .func (.func 38) #[] #[], .func (.func 43) #[] #[.pointer (some ⟨f2, 0, none⟩)]]
theorem info_cls : (Try.prog.info? 57).map (·.size) = some 4 := by kernel_rfl
theorem zero_cls : ∀ w : World, (zeroValue 57).run Try.prog w = .ok (.agg #[.nilFunc, .nilFunc, .nilFunc, .nilFunc]) w := fun _ => by kernel_rfl

set_option maxRecDepth 100000 in
set_option maxHeartbeats 1000000 in
theorem classes_any (w : World) :
    Calls Try.prog 26 #[] w fun e w' => e = .returned (.agg (clsA (w.heap.size + 1) (w.heap.size + 2))) ∧ BoxN w' (w.heap.size + 1) 9 #[.string (bstr blanksL)] ∧ BoxN w' (w.heap.size + 2) 9 #[.string (bstr signsL)] ∧ w'.heap.size = w.heap.size + 3 ∧ Below w.heap.size w w' := by
  have hz := zero_cls
  have hA : Hid (∀ (S : ByteArray) (W : World), _) := fun S W => among_any S W
  go_enter Try.func26, Try.ntmps26
  go_wp2_with fail
  (with_reducible refine (hA.out ⟨#[32, 9, 10, 13]⟩ _).mono ?_); rintro e w1 ⟨rfl, rfl⟩
  go_wp2_with fail
  (with_reducible refine (hA.out ⟨#[123, 125, 59, 44, 46, 58]⟩ _).mono ?_); rintro e w2 ⟨rfl, rfl⟩
  have eb : (⟨#[32, 9, 10, 13]⟩ : ByteArray) = bstr blanksL := rfl
  have es : (⟨#[123, 125, 59, 44, 46, 58]⟩ : ByteArray) = bstr signsL := rfl
  rw [eb, es]
  have b0 := ((BoxN.new w 57 #[.nilFunc, .nilFunc, .nilFunc, .nilFunc]).alloc (.cells #[.string (bstr blanksL)] 9)).alloc (.cells #[.string (bstr signsL)] 9)
  have b1 := (BoxN.new (w.alloc (.cells #[.nilFunc, .nilFunc, .nilFunc, .nilFunc] 57)) 9 #[.string (bstr blanksL)]).alloc (.cells #[.string (bstr signsL)] 9)
  have b2 := BoxN.new ((w.alloc (.cells #[.nilFunc, .nilFunc, .nilFunc, .nilFunc] 57)).alloc (.cells #[.string (bstr blanksL)] 9)) 9 #[.string (bstr signsL)]
  have hB : Below w.heap.size w (((w.alloc (.cells #[.nilFunc, .nilFunc, .nilFunc, .nilFunc] 57)).alloc (.cells #[.string (bstr blanksL)] 9)).alloc (.cells #[.string (bstr signsL)] 9)) :=
    (((Below.refl _ w).alloc (Nat.le_refl _) _).alloc (by simp) _).alloc (by simp; omega) _
  have hsz : (((w.alloc (.cells #[.nilFunc, .nilFunc, .nilFunc, .nilFunc] 57)).alloc (.cells #[.string (bstr blanksL)] 9)).alloc (.cells #[.string (bstr signsL)] 9)).heap.size = w.heap.size + 3 := by simp
  simp only [World.size_alloc, Nat.add_assoc, Nat.reduceAdd] at b1 b2 ⊢
  generalize ((w.alloc (.cells #[.nilFunc, .nilFunc, .nilFunc, .nilFunc] 57)).alloc (.cells #[.string (bstr blanksL)] 9)).alloc (.cells #[.string (bstr signsL)] 9) = w3 at *
  have b0' : _ = some (Obj.cells #[.nilFunc, .nilFunc, .nilFunc, .nilFunc] 57 (0, 0)) := b0
  have b2' : _ = some (Obj.cells (clsA (w.heap.size + 1) (w.heap.size + 2)) 57 (0, 0)) := b0.setRow (clsA (w.heap.size + 1) (w.heap.size + 2))
  have H1 := Lib.hid (b1.farRow (g := w.heap.size) (by omega) (clsA (w.heap.size + 1) (w.heap.size + 2)))
  have H2 := Lib.hid (b2.farRow (g := w.heap.size) (by omega) (clsA (w.heap.size + 1) (w.heap.size + 2)))
  have H3 := Lib.hid (below_setRow hB (Nat.le_refl _) (clsA (w.heap.size + 1) (w.heap.size + 2)))
  have H4 := Lib.hid hsz
  clear b0 b1 b2 hB hsz eb es
  unfold clsA at *
  go_wp2_with (refine wpList_store_rowTo rfl 57 _ _ rfl rfl w.heap.size #[.func (.func 43) #[] #[.pointer (some ⟨w.heap.size + 1, 0, none⟩)], .func (.func 37) #[] #[], .func (.func 38) #[] #[], .func (.func 43) #[] #[.pointer (some ⟨w.heap.size + 2, 0, none⟩)]] rfl rfl _ #[.nilFunc, .nilFunc, .nilFunc, .nilFunc] b0' info_cls rfl (by simp [Value.oneCell']) ?_)
  exact bodyPost_ret (results_cell_row Try.results26 _ _ w.heap.size _ _ _ _ rfl b2' Try.underlying57 rfl info_cls) rfl ⟨rfl, H1.out, H2.out, by rw [size_setRow]; exact H4.out, H3.out⟩
end Go.Proofs.Ythjpcafnbniafaa
