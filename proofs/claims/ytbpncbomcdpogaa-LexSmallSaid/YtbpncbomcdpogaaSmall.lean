/- LexSmall: the program agrees with the reference on a closed set of sources. -/
import Derived.Test.YtbpncbomcdpogaaSpc
import Derived.Test.YtbpncbomcdpogaaCls
namespace Go.Proofs.Ytbpncbomcdpogaa
open Go.RowKit Go.Joins

set_option linter.unusedVariables false
theorem lexes_S (S : ByteArray) (w : World) : Calls Try.prog 12 #[.string S] w fun e w' => e = .returned (.bool true) ∧ Below w.heap.size w w' := by
  obtain ⟨l, rfl⟩ := str_bstr S
  exact lexes_any l w
theorem places_S (S : ByteArray) (hS : S.size ≤ 100) (a : Int) (w : World) : Calls Try.prog 16 #[.string S, .int .i64 a] w fun e w' => e = .returned (.bool true) ∧ w' = w := by
  obtain ⟨l, rfl⟩ := str_bstr S
  rw [bstr_size] at hS
  exact places_any l (by omega) a w

theorem infoS : (Try.prog.info? 9).map (fun i => (i.zero, i.size, i.bytes)) = some (some (.string ⟨#[]⟩), 1, 16) := by kernel_rfl
/-- An own row of strings that are short. -/
def Ws (base : Nat) (v : Value) (n : Nat) (W : World) : Prop := ∃ L : List ByteArray, L.length = n ∧ (∀ x ∈ L, x.size ≤ 30) ∧ W.ownsRow base 9 1 v n (L.map Value.string)
theorem Ws.lit {w W : World} {base : Nat} (hB : base ≤ W.heap.size) (L : List ByteArray) (n : Nat) (hn : L.length = n) (hm : n ≤ 1000) (hL : ∀ x ∈ L, x.size ≤ 30) :
    Ws base (.slice (some ⟨W.heap.size, 0, none⟩) n n) n (W.alloc (.cells (L.map Value.string).toArray 9)) := by
  refine ⟨L, hn, hL, by simp [hn], .inr ⟨W.heap.size, n, (L.map Value.string).toArray, rfl, hB, heap_alloc_new W _, Nat.le_refl _, by unfold maxLen; omega, by simp [hn], ?_⟩⟩
  rw [List.take_of_length_le (by simp [hn])]

namespace Sm
set_option maxRecDepth 100000 in
set_option maxHeartbeats 8000000 in
theorem walk (w : World) :
    Calls Try.prog 5 #[] w fun e w' => e = .returned (.bool true) ∧ Below w.heap.size w w' := by
  have HW : Hid (∀ W : World, _) := fun W => Aw.walk W
  have HL : Hid (∀ (S : ByteArray) (W : World), _) := fun S W => lexes_S S W
  have HP : Hid (∀ (S : ByteArray), S.size ≤ 100 → ∀ (a : Int) (W : World), _) := fun S h a W => places_S S h a W
  have HS : Hid (∀ (z : Int), 0 ≤ z → z ≤ 70000 → ∀ (W : World), Calls Try.prog 17 #[.int .i64 z] W fun e w' => ∃ S : ByteArray, S.size ≤ 70000 ∧ e = .returned (.string S) ∧ Below W.heap.size W w') := fun z h1 h2 W => by
    obtain ⟨n, rfl⟩ := Int.eq_ofNat_of_zero_le h1
    exact (spaces_any n (by omega) W).mono fun e w' ⟨S, h3, h4, h5⟩ => ⟨S, by omega, h4, h5⟩
  have hB := Below.refl w.heap.size w
  go_enter Try.func5, Try.ntmps5
  go_wp2_with fail
  go_loopw [1] (fun i wr => ∃ k : Nat, k ≤ 256 ∧ i = .int .i64 k ∧ Below w.heap.size w wr)
    (fun i _ => 256 - (intOf i).toNat)
  case atStart => exact ⟨0, Nat.zero_le _, rfl, hB⟩
  case round =>
    clear hB
    obtain ⟨k, hk, rfl, hB⟩ := hrel
    by_cases hlt : k < 256
    · have hd : decide ((k : Int) < 256) = true := by simp; omega
      have hwr : IntKind.u8.wrap (k : Int) = (k : Int) := IntWalk.u8_in _ (by omega)
      obtain ⟨W1, hW1⟩ : ∃ W1, wr.alloc (.cells #[.int .u8 k] 5) = W1 := ⟨_, rfl⟩
      have hB1 : Below w.heap.size w W1 := by rw [← hW1]; exact hB.alloc hB.size _
      obtain ⟨S, hSz, hst⟩ : ∃ S : ByteArray, S.size = 1 ∧ (convert 34 9 (.slice (some ⟨wr.heap.size, 0, none⟩) 1 1)).run Try.prog W1 = .ok (.string S) W1 := by
        refine ⟨bstr [BitVec.ofNat 8 k], by rw [bstr_size]; rfl, ?_⟩
        refine str_run (A := some ⟨wr.heap.size, 0, none⟩) (l := [BitVec.ofNat 8 k]) 1 ?_
        intro _
        refine ⟨_, 0, rfl, by rw [← hW1]; simp, fun j z hz => ?_⟩
        have hj : j = 0 := by
          have := (List.getElem?_eq_some_iff.1 hz).1
          simp at this; omega
        subst hj
        simp at hz
        subst hz
        rw [← hW1]
        have := (BoxN.new wr 5 #[.int .u8 k]).cell 0
        rw [Nat.zero_add, this]
        simp [U8, Nat.mod_eq_of_lt hlt]
      clear hB
      go_wp2_with fail
      clear hst hwr hW1 hd
      iterate 6
        (with_reducible refine (HL.out _ _).mono ?_); rintro e w9 ⟨rfl, hb9⟩
        replace hB1 := hB1.trans (hb9.mono hB1.size)
        clear hb9
        go_wp2_with fail
      go_roundw
      case rel => exact ⟨k + 1, by omega, by go_num, hB1⟩
      case measure => simp [intOf]; omega
    · have hd : decide ((k : Int) < 256) = false := by simp; omega
      go_wp2_with fail
      clear hd hlt hk
      go_loopw [4] (fun i wx => ∃ k : Nat, k ≤ 6561 ∧ i = .int .i64 k ∧ Below w.heap.size w wx)
        (fun i _ => 6561 - (intOf i).toNat)
      case atStart => exact ⟨0, Nat.zero_le _, rfl, hB⟩
      case round =>
        clear hB
        obtain ⟨n, hn, rfl, hB⟩ := hrel
        by_cases hlt : n < 6561
        · have hd : decide ((n : Int) < 6561) = true := by simp; omega
          go_wp2_with fail
          clear hd
          go_loopw [5, 6, 7] (fun s m k wy => ∃ (S : ByteArray) (a b : Nat), S.size = b ∧ a ≤ 6561 ∧ b ≤ 4 ∧ s = .string S ∧ m = .int .i64 a ∧ k = .int .i64 b ∧ wy = wr)
            (fun _ _ k _ => 4 - (intOf k).toNat)
          case atStart => exact ⟨_, n, 0, rfl, by omega, by omega, rfl, rfl, rfl, rfl⟩
          case round =>
            obtain ⟨S, a, b, hS, ha, hb, rfl, rfl, rfl, rfl⟩ := hrel
            by_cases hlb : b < 4
            · have hd : decide ((b : Int) < 4) = true := by simp; omega
              go_wp2_with fail
              go_roundw
              case rel => exact ⟨_, a / 9, b + 1, by rw [ByteArray.size_append, ByteArray.size_extract, hS, show ByteArray.size ⟨#[97, 48, 95, 32, 46, 10, 35, 123, 63]⟩ = 9 from rfl]; omega, by omega, by omega, rfl, by go_num, by go_num, by first | rfl | trivial⟩
              case measure => simp [intOf]; omega
            · have hd : decide ((b : Int) < 4) = false := by simp; omega
              go_wp2_with fail
              clear hd
              (with_reducible refine (HL.out _ _).mono ?_); rintro e w9 ⟨rfl, hb9⟩
              replace hB := hB.trans (hb9.mono hB.size)
              clear hb9
              go_wp2_with fail
              (with_reducible refine (HP.out _ (by omega) _ _).mono ?_); rintro e w10 ⟨rfl, rfl⟩
              go_wp2_with fail
              go_roundw
              case rel => exact ⟨n + 1, by omega, by go_num, hB⟩
              case measure => simp [intOf]; omega
        · have hd : decide ((n : Int) < 6561) = false := by simp; omega
          go_wp2_with fail
          clear hd hlt hn
          have hws : Ws w.heap.size _ 22 _ := Ws.lit (w := w) (W := wr) hB.size [⟨#[49, 48, 55, 51, 55, 52, 49, 56, 50, 52]⟩, ⟨#[49, 48, 55, 51, 55, 52, 49, 56, 50, 53]⟩, ⟨#[57, 57, 57, 57, 57, 57, 57, 57, 57, 57, 57, 57, 57, 57, 57, 57, 57, 57, 57, 57]⟩, ⟨#[48]⟩, ⟨#[48, 48]⟩, ⟨#[48, 49]⟩, ⟨#[49, 48]⟩, ⟨#[49, 97]⟩, ⟨#[49, 95]⟩, ⟨#[97, 95]⟩, ⟨#[95, 97]⟩, ⟨#[95]⟩, ⟨#[123]⟩, ⟨#[125, 59]⟩, ⟨#[44, 46]⟩, ⟨#[58]⟩, ⟨#[35]⟩, ⟨#[35, 97]⟩, ⟨#[35, 10]⟩, ⟨#[13, 10]⟩, ⟨#[65, 49]⟩, ⟨#[122, 57, 95, 90]⟩] 22 rfl (by decide) (by decide)
          replace hB := hB.alloc (o := .cells ([⟨#[49, 48, 55, 51, 55, 52, 49, 56, 50, 52]⟩, ⟨#[49, 48, 55, 51, 55, 52, 49, 56, 50, 53]⟩, ⟨#[57, 57, 57, 57, 57, 57, 57, 57, 57, 57, 57, 57, 57, 57, 57, 57, 57, 57, 57, 57]⟩, ⟨#[48]⟩, ⟨#[48, 48]⟩, ⟨#[48, 49]⟩, ⟨#[49, 48]⟩, ⟨#[49, 97]⟩, ⟨#[49, 95]⟩, ⟨#[97, 95]⟩, ⟨#[95, 97]⟩, ⟨#[95]⟩, ⟨#[123]⟩, ⟨#[125, 59]⟩, ⟨#[44, 46]⟩, ⟨#[58]⟩, ⟨#[35]⟩, ⟨#[35, 97]⟩, ⟨#[35, 10]⟩, ⟨#[13, 10]⟩, ⟨#[65, 49]⟩, ⟨#[122, 57, 95, 90]⟩].map Value.string).toArray 9) hB.size
          simp only [List.map_cons, List.map_nil] at hws hB
          generalize hW0 : wr.alloc (.cells _ 9) = W0 at hws hB ⊢
          clear hW0
          generalize hG : (some ⟨wr.heap.size, 0, none⟩ : Option Addr) = G at hws ⊢
          clear hG
          go_loopw [8, 9] (fun v i wx => ∃ k m c : Nat, ∃ G, 22 ≤ k ∧ k ≤ 27 ∧ m = 22 + 3 * (k - 22) ∧ v = .slice G m c ∧ i = .int .i64 k ∧ Ws w.heap.size v m wx ∧ Below w.heap.size w wx)
            (fun _ i _ => 27 - (intOf i).toNat)
          case atStart => exact ⟨22, 22, 22, G, by omega, by omega, by omega, rfl, rfl, hws, hB⟩
          case round =>
            clear hB hws
            obtain ⟨n, m, c, G, hn0, hn, hm, rfl, rfl, hws, hB⟩ := hrel
            by_cases hlt : n < 27
            · have hd : decide ((n : Int) < 27) = true := by simp; omega
              go_wp2_with fail
              clear hd
              go_loopw [10, 11] (fun s k wy => ∃ (S : ByteArray) (b : Nat), S.size = b ∧ b ≤ n ∧ s = .string S ∧ k = .int .i64 b ∧ wy = wr)
                (fun _ k _ => n - (intOf k).toNat)
              case atStart => exact ⟨_, 0, rfl, by omega, rfl, rfl, rfl⟩
              case round =>
                obtain ⟨S, b, hS, hb, rfl, rfl, rfl⟩ := hrel
                by_cases hlb : b < n
                · have hd : decide ((b : Int) < n) = true := by simp; omega
                  go_wp2_with fail
                  go_roundw
                  case rel => exact ⟨_, b + 1, by rw [ByteArray.size_append, hS]; rfl, by omega, rfl, by go_num, by first | rfl | trivial⟩
                  case measure => simp [intOf]; omega
                · obtain rfl : b = n := by omega
                  have hd : decide ((b : Int) < b) = false := by simp
                  obtain ⟨L, hL, hLs, hown⟩ := hws
                  obtain ⟨i0, hi, hz0, hz1, hz2⟩ := info_parts infoS
                  have hb1 : (1 : Int) ≤ b := by omega
                  have Hown := Lib.hid hown
                  have hsz2 : (S.extract 1 b).size = b - 1 := by rw [ByteArray.size_extract, hS]; omega
                  have hQ : Hid (∀ (v' : Value) (w' : World), w'.ownsRow w.heap.size 9 1 v' (m + 3) (L.map Value.string ++ [.string S, .string (⟨#[90]⟩ ++ S.extract 1 b ++ ⟨#[49]⟩), .string (S ++ ⟨#[95]⟩)]) → Ws w.heap.size v' (m + 3) w') := fun v' w' h => by
                    refine ⟨L ++ [S, ⟨#[90]⟩ ++ S.extract 1 b ++ ⟨#[49]⟩, S ++ ⟨#[95]⟩], by simp [hL], fun x hx => ?_, by rw [List.map_append]; exact h⟩
                    rcases List.mem_append.1 hx with hx | hx
                    · exact hLs x hx
                    · simp only [List.mem_cons, List.not_mem_nil, or_false] at hx
                      rcases hx with rfl | rfl | rfl
                      · omega
                      · rw [ByteArray.size_append, ByteArray.size_append, hsz2, show ByteArray.size ⟨#[90]⟩ = 1 from rfl, show ByteArray.size ⟨#[49]⟩ = 1 from rfl]; omega
                      · rw [ByteArray.size_append, hS, show ByteArray.size ⟨#[95]⟩ = 1 from rfl]; omega
                  have HM := Lib.hid hm
                  have HBW := Lib.hid hB
                  have hbz := hB.size
                  clear hown hLs hm hB
                  go_wp2_with (at_builtin; go_loud (refine wpList_append_own _ rfl _ _ 35 rfl w.heap.size 9 i0 _ 1 16 Try.underlying35 hi hz0 hz1 hz2 rfl (by decide) _ _ _ rfl (Hown.out.alloc _) ⟨wr.heap.size, 0, none⟩ 3 3 [.string S, .string (⟨#[90]⟩ ++ S.extract 1 b ++ ⟨#[49]⟩), .string (S ++ ⟨#[95]⟩)] rfl rfl (World.news_of_block (heap_alloc_new wr _)) (by simp [Value.oneCell']) (by have := HM.out; unfold maxLen; omega) (by have := HM.out; omega) (by simp; omega) ?_; intro v5 w5 hown5 hg5 _; obtain ⟨G5, c5, rfl⟩ := own_slice hown5))
                  go_roundw
                  case rel => exact ⟨b + 1, m + 3, c5, G5, by omega, by omega, by have := HM.out; omega, rfl, by go_num, hQ.out _ _ hown5, (HBW.out.alloc hbz _).grown hg5 (by simp; omega) (fun j e => by have := own_block_le Hown.out _ e; omega)⟩
                  case measure => simp [intOf]; omega
            · have hd : decide ((n : Int) < 27) = false := by simp; omega
              have hm7 : m = 37 := by omega
              have hm9 : m ≤ 37 := by omega
              obtain ⟨L, hL, hLs, hown⟩ := hws
              have hcl : Hid (∀ k : Nat, k < m → ∃ (g : Nat) (A : ByteArray), G = some ⟨g, 0, none⟩ ∧ g < wr.heap.size ∧ A.size ≤ 30 ∧ wr.cell? ⟨g, k, none⟩ = some (.string A)) := fun k hk => by
                have hgk : L[k]? = some (L[k]'(by omega)) := List.getElem?_eq_getElem (by omega)
                rcases hown.2 with ⟨_, e⟩ | ⟨g, cap, cur, e, _, hg, _⟩
                · omega
                · simp only [Value.slice.injEq] at e
                  obtain ⟨rfl, _, _⟩ := e
                  have hc := hown.cells (g := g) rfl k (.string (L[k]'(by omega))) (by rw [List.getElem?_map, hgk]; rfl)
                  rw [Addr.add_lit, Nat.zero_add] at hc
                  exact ⟨g, _, rfl, (Array.getElem?_eq_some_iff.1 hg).1, hLs _ (List.mem_of_getElem? hgk), hc⟩
              go_wp2_with fail
              clear hd hlt hn hn0 hm hown hLs hL L hm7
              obtain ⟨W0, hW0⟩ : ∃ W0, W0 = wr := ⟨_, rfl⟩
              subst hW0
              have hB0 := Below.refl W0.heap.size W0
              go_loopw [12] (fun i wx => ∃ k : Nat, k ≤ m ∧ i = .int .i64 k ∧ Below W0.heap.size W0 wx)
                (fun i _ => m - (intOf i).toNat)
              case atStart => exact ⟨0, by omega, rfl, hB0⟩
              case round =>
                clear hB0
                obtain ⟨k, hk, rfl, hB0⟩ := hrel
                by_cases hlt : k < m
                · have hd : decide (k < m) = true := by simp; omega
                  go_wp2_with fail
                  clear hd
                  go_loopw [13] (fun i wx => ∃ k : Nat, k ≤ m ∧ i = .int .i64 k ∧ Below W0.heap.size W0 wx)
                    (fun i _ => m - (intOf i).toNat)
                  case atStart => exact ⟨0, by omega, rfl, hB0⟩
                  case round =>
                    clear hB0
                    obtain ⟨j, hj, rfl, hB0⟩ := hrel
                    by_cases hlj : j < m
                    · have hd : decide (j < m) = true := by simp; omega
                      obtain ⟨g, S, rfl, hg, hS, hcS⟩ := hcl.out k hlt
                      obtain ⟨g', T, e, hg', hT, hcT⟩ := hcl.out j hlj
                      cases e
                      have f0 : ∀ s : Wd (Gr wr), s.val.cell? ⟨g, k, none⟩ = some (.string S) := Gr.cell ((hB0.cell (p := ⟨g, k, none⟩) hg).trans hcS) (by have := hB0.size; exact Nat.lt_of_lt_of_le hg this)
                      have f1 : ∀ s : Wd (Gr wr), s.val.cell? ⟨g, j, none⟩ = some (.string T) := Gr.cell ((hB0.cell (p := ⟨g, j, none⟩) hg).trans hcT) (by have := hB0.size; exact Nat.lt_of_lt_of_le hg this)
                      have hS1 : Hid (∀ W W' : World, Gr wr W → Below W.heap.size W W' → Gr wr W') := Gr.close
                      have GL : Hid (∀ (X : ByteArray) (q : Wd (Gr wr)), _) := fun X q => HL.out X q.val
                      haveI : Nonempty (Wd (Gr wr)) := ⟨⟨wr, Below.refl _ _⟩⟩
                      have hki : (k : Int) < m := by omega
                      have hji : (j : Int) < m := by omega
                      clear hcS hcT hd hg hg'
                      go_wp2_with fail
                      refine wp_region_cls (Gr wr) (by kernel_rfl) (by kernel_rfl) (Gr.start wr) ?_
                      repeat (go_big_quiet_step (first
                        | (go_at_call 12; with_reducible exact Calls.cls hS1.out (GL.out _ _))))
                      refine wpQuiet_nil ?_
                      intro _ hw'
                      obtain ⟨s0, rfl⟩ := hw'
                      replace hB0 := hB0.trans (Below.mono s0.ok hB0.size)
                      generalize s0.val = v1 at hB0 ⊢
                      clear f0 f1 hS1 GL this
                      go_wp2_with fail
                      go_roundw
                      case rel => exact ⟨j + 1, by omega, by go_num, hB0⟩
                      case measure => simp [intOf]; omega
                    · have hd : decide (j < m) = false := by simp; omega
                      go_wp2_with fail
                      go_roundw
                      case rel => exact ⟨k + 1, by omega, by go_num, hB0⟩
                      case measure => simp [intOf]; omega
                · have hd : decide (k < m) = false := by simp; omega
                  replace hB := hB.trans (hB0.mono hB.size)
                  clear hB0 hcl hk hlt
                  go_wp2_with fail
                  clear hd
                  obtain ⟨Ls, hLs⟩ : ∃ Ls : List Int, Ls = [-9223372036854775808, -1, 0, 1, 2, 3, 4, 5, 6, 7, 8, 9223372036854775807] := ⟨_, rfl⟩
                  have hbn := BoxN.new wr 3 (Ls.map (Value.int .i64)).toArray
                  have hLl : Ls.length = 12 := by rw [hLs]; rfl
                  rw [hLs] at hbn
                  simp only [List.map_cons, List.map_nil] at hbn
                  have hbz := hB.size
                  replace hB := hB.alloc (o := .cells #[.int .i64 (-9223372036854775808), .int .i64 (-1), .int .i64 0, .int .i64 1, .int .i64 2, .int .i64 3, .int .i64 4, .int .i64 5, .int .i64 6, .int .i64 7, .int .i64 8, .int .i64 9223372036854775807] 3) hbz
                  have hcl : Hid (∀ W : World, BoxN W wr.heap.size 3 #[.int .i64 (-9223372036854775808), .int .i64 (-1), .int .i64 0, .int .i64 1, .int .i64 2, .int .i64 3, .int .i64 4, .int .i64 5, .int .i64 6, .int .i64 7, .int .i64 8, .int .i64 9223372036854775807] → wr.heap.size < W.heap.size ∧ ∀ k : Nat, k < 12 → ∃ x : Int, W.cell? ⟨wr.heap.size, k, none⟩ = some (.int .i64 x)) := fun W h => ⟨h.lt, fun k hk => ⟨Ls[k]'(by omega), by
                    rw [h.cell k]
                    have : (#[.int .i64 (-9223372036854775808), .int .i64 (-1), .int .i64 0, .int .i64 1, .int .i64 2, .int .i64 3, .int .i64 4, .int .i64 5, .int .i64 6, .int .i64 7, .int .i64 8, .int .i64 9223372036854775807] : Array Value) = (Ls.map (Value.int .i64)).toArray := by rw [hLs]; rfl
                    rw [this]
                    simp [List.getElem?_eq_getElem (show k < Ls.length by omega)]⟩⟩
                  clear hLs hLl
                  generalize hW1 : wr.alloc (.cells _ 3) = W1 at hbn hB ⊢
                  clear hW1
                  obtain ⟨hbl, hcx⟩ := hcl.out _ hbn
                  replace hcx := Lib.hid hcx
                  clear hcl hbn hbz
                  generalize wr.heap.size = b0 at hbl hcx ⊢
                  go_loopw [15] (fun i wx => ∃ k : Nat, k ≤ 12 ∧ i = .int .i64 k ∧ wx = W1)
                    (fun i _ => 12 - (intOf i).toNat)
                  case atStart => exact ⟨0, by omega, rfl, rfl⟩
                  case round =>
                    obtain ⟨k, hk, rfl, rfl⟩ := hrel
                    by_cases hlt : k < 12
                    · have hd : decide ((k : Int) < 12) = true := by simp; omega
                      obtain ⟨x, hx⟩ := hcx.out k hlt
                      go_wp2_with fail
                      (with_reducible refine (HP.out _ (by decide) _ _).mono ?_); rintro e w10 ⟨rfl, rfl⟩
                      go_wp2_with fail
                      (with_reducible refine (HP.out _ (by decide) _ _).mono ?_); rintro e w10 ⟨rfl, rfl⟩
                      go_wp2_with fail
                      (with_reducible refine (HP.out _ (by decide) _ _).mono ?_); rintro e w10 ⟨rfl, rfl⟩
                      go_wp2_with fail
                      go_roundw
                      case rel => exact ⟨k + 1, by omega, by go_num, by first | rfl | trivial⟩
                      case measure => simp [intOf]; omega
                    · have hd : decide ((k : Int) < 12) = false := by simp; omega
                      clear hcx hbl
                      go_wp2_with fail
                      clear hd hlt hk
                      go_loopw [16] (fun i wx => ∃ k : Nat, 65535 ≤ k ∧ k ≤ 65538 ∧ i = .int .i64 k ∧ Below w.heap.size w wx)
                        (fun i _ => 65538 - (intOf i).toNat)
                      case atStart => exact ⟨65535, by omega, by omega, rfl, hB⟩
                      case round =>
                        clear hB
                        obtain ⟨k, hk0, hk, rfl, hB⟩ := hrel
                        by_cases hlt : k < 65538
                        · have hd : decide ((k : Int) < 65538) = true := by simp; omega
                          go_wp2_with fail
                          (with_reducible refine (HS.out _ (by omega) (by omega) _).mono ?_); rintro e w3 ⟨S, hS, rfl, hb3⟩
                          replace hB := hB.trans (hb3.mono hB.size)
                          clear hb3
                          go_wp2_with fail
                          (with_reducible refine (HL.out _ _).mono ?_); rintro e w4 ⟨rfl, hb4⟩
                          replace hB := hB.trans (hb4.mono hB.size)
                          clear hb4
                          go_wp2_with fail
                          (with_reducible refine (HS.out _ (by omega) (by omega) _).mono ?_); rintro e w5 ⟨S2, hS2, rfl, hb5⟩
                          replace hB := hB.trans (hb5.mono hB.size)
                          clear hb5
                          go_wp2_with fail
                          (with_reducible refine (HL.out _ _).mono ?_); rintro e w6 ⟨rfl, hb6⟩
                          replace hB := hB.trans (hb6.mono hB.size)
                          clear hb6
                          go_wp2_with fail
                          go_roundw
                          case rel => exact ⟨k + 1, by omega, by omega, by go_num, hB⟩
                          case measure => simp [intOf]; omega
                        · have hd : decide ((k : Int) < 65538) = false := by simp; omega
                          go_wp2_with fail
                          (with_reducible refine (HW.out _).mono ?_); rintro e w3 ⟨rfl, hb3⟩
                          replace hB := hB.trans (hb3.mono hB.size)
                          clear hb3
                          go_wp2_with fail
                          go_ret
                          exact ⟨rfl, hB⟩
end Sm
end Go.Proofs.Ytbpncbomcdpogaa
