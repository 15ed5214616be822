/- LexBlanks: blanks and comments before the tokens change only offsets. -/
import Derived.Test.YtbpncbomcdpogaaPick
import Derived.Test.YtbpncbomcdpogaaAwake
namespace Go.Proofs.Ytbpncbomcdpogaa
open Go.RowKit Go.Joins

theorem infoI : (Try.prog.info? 3).map (fun i => (i.zero, i.size, i.bytes)) = some (some (.int .i64 0), 1, 8) := by kernel_rfl
/-- The ints that a slice reads. -/
def isI (A : Option Addr) (l : List Int) (W : World) : Prop := l ≠ [] → ∃ b off, A = some ⟨b, off, none⟩ ∧ b < W.heap.size ∧ ∀ k z, l[k]? = some z → W.cell? ⟨b, off + k, none⟩ = some (.int .i64 z)
theorem isI.keep {A : Option Addr} {l : List Int} {w w' : World} (h : isI A l w) (hb : Below w.heap.size w w') : isI A l w' := fun hz => by
  obtain ⟨b, off, e, hl, hr⟩ := h hz
  exact ⟨b, off, e, Nat.lt_of_lt_of_le hl hb.size, fun k z hk => (hb.cell (p := ⟨b, off + k, none⟩) hl).trans (hr k z hk)⟩
def cellsO (O : List Nat) : List Value := O.map fun o : Nat => .int .i64 (o : Int)
theorem own_isI {w : World} {base n c : Nat} {G : Option Addr} {O : List Nat} (h : w.ownsRow base 3 1 (.slice G n c) n (cellsO O)) : isI G (O.map fun o : Nat => (o : Int)) w := fun hne => by
  have hlen : O.length = n := by have := h.1; simp [cellsO] at this; omega
  have hne' : O ≠ [] := by rintro rfl; exact hne rfl
  rcases h.2 with ⟨_, e⟩ | ⟨g, cap, cur, e, _, hg, _⟩
  · exact absurd (List.eq_nil_of_length_eq_zero (hlen.trans e)) hne'
  · simp only [Value.slice.injEq] at e
    obtain ⟨rfl, _, _⟩ := e
    refine ⟨g, 0, rfl, (Array.getElem?_eq_some_iff.1 hg).1, fun k z hk => ?_⟩
    rw [List.getElem?_map] at hk
    obtain ⟨o, ho, rfl⟩ := Option.map_eq_some_iff.1 hk
    have hc := h.cells (g := g) rfl k (.int .i64 (o : Int)) (by unfold cellsO; rw [List.getElem?_map, ho]; rfl)
    rwa [Addr.add_lit] at hc

theorem raw_ks' (L : List Tk) : (L.map raw).map ks = L.map ksT := by rw [List.map_map]; rfl

namespace Bl
set_option maxRecDepth 100000 in
set_option maxHeartbeats 8000000 in
theorem walk (S : ByteArray) (A : Option Addr) (cA : Nat) (gl : List Int) (w : World) (hS : S.size ≤ maxLen) (hgl : isI A gl w) :
    Calls Try.prog 7 #[.string S, .slice A gl.length cA] w fun e w' => e = .returned (.bool true) ∧ Below w.heap.size w w' := by
  obtain ⟨l, rfl⟩ := str_bstr S
  have HW : Hid (∀ W : World, _) := fun W => Aw.walk W
  have hbs := bstr_size l
  rw [hbs] at hS
  unfold maxLen at hS
  go_enter Try.func7, Try.ntmps7
  go_wp2_with fail
  (with_reducible refine (HW.out _).mono ?_); rintro e w1 ⟨rfl, hB⟩
  clear HW
  have HL : Hid (∀ W : World, _) := fun W => lex_n l (bstr l) rfl (lexT l) (lexT l).length (lexO l) (lexE l) rfl rfl rfl rfl W
  go_wp2_with fail
  (with_reducible refine (HL.out _).mono ?_); rintro e w2 ⟨G, c, rfl, hr, _, hb2⟩
  replace hB := hB.trans (hb2.mono hB.size)
  clear hb2 HL
  by_cases he : lexE l = 0
  case neg =>
    have hd : ((lexE l : Int) != 0) = true := by rw [bne_iff_ne]; omega
    generalize lexE l = r at hd ⊢
    generalize lexO l = o
    go_wp2_with fail
    go_ret
    exact ⟨rfl, hB⟩
  by_cases hn : 300 < (lexT l).length
  · have hd : decide ((300 : Int) < (lexT l).length) = true := by simp; omega
    rw [he]
    generalize lexO l = o
    generalize (lexT l).length = n at *
    go_wp2_with fail
    go_ret
    exact ⟨rfl, hB⟩
  by_cases hlen : 4000 < l.length
  · have hd : decide ((300 : Int) < (lexT l).length) = false := by simp; omega
    have hd2 : decide ((4000 : Int) < l.length) = true := by simp; omega
    rw [he]
    generalize lexO l = o
    generalize (lexT l).length = n at *
    go_wp2_with fail
    go_ret
    exact ⟨rfl, hB⟩
  have hf : (scan 0 l).find? bad = none := (lexE_zero (by omega)).1 he
  obtain ⟨hT, hO, hE⟩ := lexT_ok (l := l) (by omega) hf
  have hd : decide ((300 : Int) < (lexT l).length) = false := by simp; omega
  have hd2 : decide ((4000 : Int) < l.length) = false := by simp; omega
  rw [hT] at hd hn hr ⊢
  rw [hO, hE]
  have HLB : Hid (∀ Z : List (List (BitVec 8) × Tk), Z.map Prod.snd = scan 0 l → (∀ z ∈ Z, Gap z.1) → _) := fun Z h1 h2 => lex_blanks (l := l) (by omega) (by omega) hf Z h1 h2
  have HSL : Hid (∀ k, (flatS ((scan 0 l).take k)).length ≤ 8000) := fun k => by
    have h1 := flatS_take (scan 0 l) k
    have h2 := flat_len l.length 0 l (Nat.le_refl _)
    omega
  generalize scan 0 l = L at *
  clear hT hO hE hf he
  have hnl : (L.map raw).length = L.length := by simp
  obtain ⟨n, hnn⟩ : ∃ n, L.length = n := ⟨_, rfl⟩
  rw [hnn] at hd hn hnl ⊢
  replace hgl := hgl.keep hB
  go_wp2_with fail
  have hbz := hB.size
  have hbn := BoxN.new w2 9 #[.string ⟨#[32]⟩, .string ⟨#[10]⟩, .string ⟨#[9, 32]⟩, .string ⟨#[35, 10]⟩, .string ⟨#[32, 35, 32, 123, 97, 32, 63, 10]⟩, .string ⟨#[13, 10]⟩]
  have hBa : Below w2.heap.size w2 (w2.alloc (.cells #[.string ⟨#[32]⟩, .string ⟨#[10]⟩, .string ⟨#[9, 32]⟩, .string ⟨#[35, 10]⟩, .string ⟨#[32, 35, 32, 123, 97, 32, 63, 10]⟩, .string ⟨#[13, 10]⟩] 9)) := (Below.refl _ w2).alloc (Nat.le_refl _) _
  replace hB := hB.trans (hBa.mono hbz)
  replace hr := hr.keep hBa
  replace hgl := hgl.keep hBa
  generalize hW4 : w2.alloc (.cells #[.string ⟨#[32]⟩, .string ⟨#[10]⟩, .string ⟨#[9, 32]⟩, .string ⟨#[35, 10]⟩, .string ⟨#[32, 35, 32, 123, 97, 32, 63, 10]⟩, .string ⟨#[13, 10]⟩] 9) = W4 at hbn hB hr hgl ⊢
  clear hW4 hBa hbz
  obtain ⟨b0, hb0⟩ : ∃ b0, w2.heap.size = b0 := ⟨_, rfl⟩
  rw [hb0] at hbn ⊢
  clear hb0
  have hbl := hbn.lt
  have HF : Hid (∀ r : Nat, r < 6 → ∃ g : List (BitVec 8), g ∈ fills ∧ W4.cell? ⟨b0, r, none⟩ = some (.string (bstr g))) := fun r hr6 => by
    have hfl : r < fills.length := hr6
    refine ⟨fills[r], List.getElem_mem _, ?_⟩
    rw [hbn.cell r]
    have : (#[.string ⟨#[32]⟩, .string ⟨#[10]⟩, .string ⟨#[9, 32]⟩, .string ⟨#[35, 10]⟩, .string ⟨#[32, 35, 32, 123, 97, 32, 63, 10]⟩, .string ⟨#[13, 10]⟩] : Array Value) = (fills.map fun g => Value.string (bstr g)).toArray := rfl
    rw [this, List.getElem?_toArray, List.getElem?_map, List.getElem?_eq_getElem hfl]
    rfl
  have HPk : Hid (∀ (x : Int) (W : World), _) := fun x W => pick_any x W
  have HG : Hid (∀ k : Nat, k < n → ∃ (b off : Nat) (x : Tk), G = some ⟨b, off, none⟩ ∧ b < W4.heap.size ∧ L[k]? = some x ∧ W4.cell? ⟨b, off + k * 3 + 1, none⟩ = some (.string (bstr x.s))) := fun k hk => by
    have hgk : L[k]? = some (L[k]'(by omega)) := List.getElem?_eq_getElem (by omega)
    have hgr : (L.map raw)[k]? = some (raw (L[k]'(by omega))) := by rw [List.getElem?_map, hgk]; rfl
    obtain ⟨b, off, e, hb, hc⟩ := hr (by rintro h; rw [h] at hgr; simp at hgr)
    exact ⟨b, off, _, e, hb, hgk, (hc k _ hgr).2.1⟩
  have HA : Hid (∀ k : Nat, k < gl.length → ∃ (b off : Nat) (z : Int), A = some ⟨b, off, none⟩ ∧ b < W4.heap.size ∧ W4.cell? ⟨b, off + k, none⟩ = some (.int .i64 z)) := fun k hk => by
    have hgk : gl[k]? = some gl[k] := List.getElem?_eq_getElem hk
    obtain ⟨b, off, e, hb, hc⟩ := hgl (by rintro h; rw [h] at hk; simp at hk)
    exact ⟨b, off, _, e, hb, hc k _ hgk⟩
  obtain ⟨i0, hi, hz0, hz1, hz2⟩ := info_parts infoI
  have hB4 := Below.refl W4.heap.size W4
  clear hgl hbn hd hd2 hlen hS hbs
  generalize gl.length = ng at HA ⊢
  go_loopw [9, 10, 11] (fun s v i wr => ∃ (Z : List (List (BitVec 8) × Tk)) (k : Nat), k ≤ n ∧ Z.map Prod.snd = L.take k ∧ (∀ z ∈ Z, Gap z.1) ∧ s = .string (bstr (srcZ Z)) ∧ i = .int .i64 k ∧ wr.ownsRow W4.heap.size 3 1 v k (cellsO (offZ 0 Z)) ∧ Below W4.heap.size W4 wr)
    (fun _ _ i _ => n - (intOf i).toNat)
  case atStart => exact ⟨[], 0, Nat.zero_le _, rfl, (fun z h => by cases h), rfl, rfl, ⟨rfl, .inl ⟨rfl, rfl⟩⟩, hB4⟩
  case round =>
    clear hB4
    obtain ⟨Z, k, hk, hZ, hZG, rfl, rfl, hown, hB4⟩ := hrel
    by_cases hlt : k < n
    · obtain ⟨b, off, x, rfl, hb, hgx, hcx⟩ := HG.out k hlt
      have hdk : decide (k < n) = true := by simp; omega
      obtain ⟨G9, c9, rfl⟩ := own_slice hown
      have Hown := Lib.hid hown
      have hbz := hB4.size
      have hcx4 := (hB4.cell (p := ⟨b, off + k * 3 + 1, none⟩) hb).trans hcx
      have hb4 := Nat.lt_of_lt_of_le hb hbz
      have hbl4 := Nat.lt_of_lt_of_le hbl hbz
      obtain ⟨SX, hSX⟩ : ∃ SX, bstr x.s = SX := ⟨_, rfl⟩
      have hSXz : SX.size = x.s.length := by rw [← hSX]; exact bstr_size _
      rw [hSX] at hcx4 hcx
      have hlen1 := srcZ_len Z hZG
      have hZl : Z.length = k := by
        have := congrArg List.length hZ
        rw [List.length_map, List.length_take] at this; omega
      have hl8 := HSL.out k
      rw [hZ, hZl] at hlen1
      obtain ⟨S1, hS1⟩ : ∃ S1, bstr (srcZ Z) = S1 := ⟨_, rfl⟩
      have hS1z : S1.size = (srcZ Z).length := by rw [← hS1]; exact bstr_size _
      have HST : Hid (∀ g ∈ fills, ∃ (S2 : ByteArray) (q : Nat), S1 ++ bstr g = S2 ∧ S2.size = q ∧ q ≤ 20000 ∧ x.s.length ≤ 8000 ∧ ∃ Z', Z'.map Prod.snd = L.take (k + 1) ∧ (∀ z ∈ Z', Gap z.1) ∧ Value.string (S2 ++ SX) = .string (bstr (srcZ Z')) ∧ cellsO (offZ 0 Z') = cellsO (offZ 0 Z) ++ [.int .i64 q]) := fun g hg => by
        have hgl8 := (fills_gap g hg).len
        refine ⟨bstr (srcZ Z ++ g), (srcZ Z ++ g).length, by rw [← hS1, bstr_append], bstr_size _, by rw [List.length_append]; omega, ?_, Z ++ [(g, x)], ?_, ?_, ?_, ?_⟩
        · have := HSL.out (k + 1)
          rw [take_snoc' hgx] at this
          simp [flatS] at this; omega
        · rw [List.map_append, hZ, take_snoc' hgx]; rfl
        · intro z hz
          rcases List.mem_append.1 hz with hz | hz
          · exact hZG z hz
          · simp at hz; subst hz; exact fills_gap g hg
        · rw [srcZ_snoc, ← hSX, bstr_append]
        · rw [offZ_snoc, Nat.zero_add]; simp [cellsO]
      have hS1b : S1.size ≤ 20000 := by omega
      rw [hS1]
      have HBX := Lib.hid (And.intro hb hcx)
      clear hS1 hSX hcx hb hlen1 hl8 hS1z hZl hown
      by_cases hkg : k < ng
      · obtain ⟨ba, oa, z, rfl, hba, hca⟩ := HA.out k hkg
        have hca4 := (hB4.cell (p := ⟨ba, oa + k, none⟩) hba).trans hca
        have hba4 := Nat.lt_of_lt_of_le hba hbz
        have hdg : decide (k < ng) = true := by simp; omega
        clear hca hba
        go_wp2_with fail
        (with_reducible refine (HPk.out _ _).mono ?_); rintro e w5 ⟨r, hr6, rfl, rfl⟩
        obtain ⟨g, hg, hcg⟩ := HF.out r hr6
        have hcg4 := (hB4.cell (p := ⟨b0, r, none⟩) hbl).trans hcg
        obtain ⟨S2, q, hcat, hS2z, hq, hxs, Z', z1, z2, z3, z4⟩ := HST.out g hg
        have hgz := bstr_size g
        have hgl8 := (fills_gap g hg).len
        have hgz8 : (bstr g).size ≤ 8 := by omega
        generalize bstr g = Sg at *
        have HD : Hid (∀ w6 : World, (w5.alloc (.cells #[.int .i64 q] 3)).grownBy w6 (Value.slice G9 k c9).ownBlock → w6.cell? ⟨b, off + k * 3 + 1, none⟩ = some (.string SX) ∧ b < w6.heap.size ∧ Below W4.heap.size W4 w6) := fun w6 hg6 => by
          have hBn := (hB4.alloc (o := .cells #[.int .i64 q] 3) hbz).grown hg6 (by simp; omega) (fun j e => by have := own_block_le Hown.out _ e; omega)
          exact ⟨(hBn.cell (p := ⟨b, off + k * 3 + 1, none⟩) HBX.out.1).trans HBX.out.2, Nat.lt_of_lt_of_le HBX.out.1 hBn.size, hBn⟩
        have HZ1 := Lib.hid z1
        have HZ2 := Lib.hid z2
        have HZ3 := Lib.hid z3
        have HZ4 := Lib.hid z4
        clear hcg hg hgz z1 z2 z3 z4 HST
        go_wp2_with (at_builtin; go_loud (refine wpList_append_own _ rfl _ _ 36 rfl W4.heap.size 3 i0 _ 1 8 Try.underlying36 hi hz0 hz1 hz2 rfl (by decide) _ _ _ rfl (Hown.out.alloc _) ⟨w5.heap.size, 0, none⟩ 1 1 [.int .i64 q] rfl rfl (World.news_of_block (heap_alloc_new w5 _)) (by simp [Value.oneCell']) (by unfold maxLen; omega) (by omega) (by simp; omega) ?_; intro v6 w6 hown6 hg6 _; obtain ⟨hc6, hb6, hB6⟩ := HD.out w6 hg6; obtain ⟨G6, c6, rfl⟩ := own_slice hown6; replace hown6 := Lib.hid hown6; replace hB6 := Lib.hid hB6))
        go_roundw
        case rel => exact ⟨Z', k + 1, by omega, HZ1.out, HZ2.out, HZ3.out, by go_num, by rw [HZ4.out]; exact hown6.out, hB6.out⟩
        case measure => simp [intOf]; omega
      · have hdg : decide (k < ng) = false := by simp; omega
        go_wp2_with fail
        (with_reducible refine (HPk.out _ _).mono ?_); rintro e w5 ⟨r, hr6, rfl, rfl⟩
        obtain ⟨g, hg, hcg⟩ := HF.out r hr6
        have hcg4 := (hB4.cell (p := ⟨b0, r, none⟩) hbl).trans hcg
        obtain ⟨S2, q, hcat, hS2z, hq, hxs, Z', z1, z2, z3, z4⟩ := HST.out g hg
        have hgz := bstr_size g
        have hgl8 := (fills_gap g hg).len
        have hgz8 : (bstr g).size ≤ 8 := by omega
        generalize bstr g = Sg at *
        have HD : Hid (∀ w6 : World, (w5.alloc (.cells #[.int .i64 q] 3)).grownBy w6 (Value.slice G9 k c9).ownBlock → w6.cell? ⟨b, off + k * 3 + 1, none⟩ = some (.string SX) ∧ b < w6.heap.size ∧ Below W4.heap.size W4 w6) := fun w6 hg6 => by
          have hBn := (hB4.alloc (o := .cells #[.int .i64 q] 3) hbz).grown hg6 (by simp; omega) (fun j e => by have := own_block_le Hown.out _ e; omega)
          exact ⟨(hBn.cell (p := ⟨b, off + k * 3 + 1, none⟩) HBX.out.1).trans HBX.out.2, Nat.lt_of_lt_of_le HBX.out.1 hBn.size, hBn⟩
        have HZ1 := Lib.hid z1
        have HZ2 := Lib.hid z2
        have HZ3 := Lib.hid z3
        have HZ4 := Lib.hid z4
        clear hcg hg hgz z1 z2 z3 z4 HST
        go_wp2_with (at_builtin; go_loud (refine wpList_append_own _ rfl _ _ 36 rfl W4.heap.size 3 i0 _ 1 8 Try.underlying36 hi hz0 hz1 hz2 rfl (by decide) _ _ _ rfl (Hown.out.alloc _) ⟨w5.heap.size, 0, none⟩ 1 1 [.int .i64 q] rfl rfl (World.news_of_block (heap_alloc_new w5 _)) (by simp [Value.oneCell']) (by unfold maxLen; omega) (by omega) (by simp; omega) ?_; intro v6 w6 hown6 hg6 _; obtain ⟨hc6, hb6, hB6⟩ := HD.out w6 hg6; obtain ⟨G6, c6, rfl⟩ := own_slice hown6; replace hown6 := Lib.hid hown6; replace hB6 := Lib.hid hB6))
        go_roundw
        case rel => exact ⟨Z', k + 1, by omega, HZ1.out, HZ2.out, HZ3.out, by go_num, by rw [HZ4.out]; exact hown6.out, hB6.out⟩
        case measure => simp [intOf]; omega
    · obtain rfl : k = n := by omega
      rw [List.take_of_length_le (by omega)] at hZ
      obtain ⟨e1, e2, e3⟩ := HLB.out Z hZ hZG
      have hZl : Z.length = k := by rw [← hnn, ← hZ, List.length_map]
      have hlen1 := srcZ_len Z hZG
      have hl8 := HSL.out L.length
      rw [List.take_length] at hl8
      rw [hZ, hZl] at hlen1
      have hcat : bstr (srcZ Z) ++ ⟨#[32, 35, 32, 116, 104, 101, 32, 101, 110, 100]⟩ = bstr (srcZ Z ++ endB) := by rw [← bstr_append]; rfl
      have hS1z : (bstr (srcZ Z)).size ≤ 20000 := by rw [bstr_size]; omega
      have hTl : (lexT (srcZ Z ++ endB)).length = k := by
        have := congrArg List.length e2
        rw [List.length_map, List.length_map] at this; omega
      have HL2 : Hid (∀ W : World, _) := fun W => lex_n (srcZ Z ++ endB) (bstr (srcZ Z ++ endB)) rfl (lexT (srcZ Z ++ endB)) k (lexO (srcZ Z ++ endB)) 0 rfl hTl rfl e1 W
      have hks : (L.map raw).map ks = ((lexT (srcZ Z ++ endB)).map raw).map ks := by rw [raw_ks', raw_ks', e2]
      obtain ⟨G9, c9, rfl⟩ := own_slice hown
      have hoi := own_isI hown
      have hoff : Hid (∀ j, j < k → ∃ x, ((lexT (srcZ Z ++ endB)).map raw)[j]? = some x ∧ ((offZ 0 Z).map fun o : Nat => (o : Int))[j]? = some x.o) := fun j hj => by
        have hg : (lexT (srcZ Z ++ endB))[j]? = some ((lexT (srcZ Z ++ endB))[j]'(by omega)) := List.getElem?_eq_getElem (by omega)
        refine ⟨raw ((lexT (srcZ Z ++ endB))[j]'(by omega)), by rw [List.getElem?_map, hg]; rfl, ?_⟩
        rw [← e3, List.getElem?_map, List.getElem?_map, hg]; rfl
      have hdk : decide (k < k) = false := by simp
      replace hr := hr.keep hB4
      replace hB := hB.trans (hB4.mono hB.size)
      generalize (lexT (srcZ Z ++ endB)).map raw = R2 at *
      generalize (offZ 0 Z).map (fun o : Nat => (o : Int)) = O at *
      generalize lexO (srcZ Z ++ endB) = o2 at *
      generalize bstr (srcZ Z ++ endB) = S2 at *
      generalize bstr (srcZ Z) = S1 at *
      clear hB4 hown HF HPk HG HA HLB HSL e1 e2 e3 hZl hlen1 hl8 hTl hZ hZG
      go_wp2_with fail
      (with_reducible refine (HL2.out _).mono ?_); rintro e w6 ⟨G2, c2, rfl, hr2, _, hb6⟩
      replace hB := hB.trans (hb6.mono hB.size)
      replace hr := hr.keep hb6
      replace hoi := hoi.keep hb6
      clear hb6 HL2
      go_wp2_with fail
      (with_reducible refine (alike_yes G G2 c c2 k _ _ hnl (by omega) hks _ hr hr2).mono ?_); rintro e w7 ⟨rfl, m1, hw⟩
      have hbd : Below w6.heap.size w6 w7 := by rw [hw]; exact below_drewN (Below.refl _ _) m1
      replace hoi := hoi.keep hbd
      replace hr2 := hr2.keep hbd
      replace hB := hB.trans (hbd.mono hB.size)
      clear hbd hw hr hks
      go_wp2_with fail
      go_loopw [16] (fun i wx => ∃ j : Nat, j ≤ k ∧ i = .int .i64 j ∧ isT G2 R2 wx ∧ isI G9 O wx ∧ Below w.heap.size w wx)
        (fun i _ => k - (intOf i).toNat)
      case atStart => exact ⟨0, Nat.zero_le _, rfl, hr2, hoi, hB⟩
      case round =>
        clear hr2 hoi hB
        obtain ⟨j, hj, rfl, hr2, hoi, hB⟩ := hrel
        by_cases hlj : j < k
        · obtain ⟨x, hx, hox⟩ := hoff.out j hlj
          have HDr : Hid (∀ q, isT G2 R2 (wr.drewN q) ∧ isI G9 O (wr.drewN q) ∧ Below w.heap.size w (wr.drewN q)) := fun q => ⟨hr2.drewN q, hoi.keep (below_drewN (Below.refl _ _) q), below_drewN hB q⟩
          obtain ⟨b, off, rfl, hbl2, hc2⟩ := hr2 (by rintro h; rw [h] at hx; simp at hx)
          obtain ⟨b9, o9, rfl, hbl9, hc9⟩ := hoi (by rintro h; rw [h] at hox; simp at hox)
          obtain ⟨_, _, d3⟩ := hc2 j x hx
          have d9 := hc9 j _ hox
          have hji : (j : Int) < k := by omega
          have hq : ((x.o : Int) != x.o) = false := by simp
          clear hc2 hc9 hx hox hoff
          generalize x.o = ox at *
          go_wp2_with fail
          go_quiet (fail)
          go_wp2_with fail
          go_roundw
          case rel => exact ⟨j + 1, by omega, by go_num, (HDr.out _).1, (HDr.out _).2.1, (HDr.out _).2.2⟩
          case measure => simp [intOf]; omega
        · clear hr2 hoi
          have hdj : decide (j < k) = false := by simp; omega
          go_wp2_with fail
          go_ret
          exact ⟨rfl, hB⟩
end Bl
end Go.Proofs.Ytbpncbomcdpogaa
