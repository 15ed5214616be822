/- awake returns true. -/
import Derived.Test.YtdhofaiogbpjpaaMod
import Derived.Test.YtdhofaiogbpjpaaLay
import Derived.Test.YtdhofaiogbpjpaaEq
namespace Go.Proofs.Ytdhofaiogbpjpaa
open Go.RowKit Go.Joins
namespace Me
def exL : List Rg := [⟨0, 0, 5⟩, ⟨1, 8, 0⟩, ⟨2, 8, 8⟩, ⟨3, 16, 3⟩]
theorem ex1 : layR 32 [5, 0, 8, 3] = (exL, 0) := by decide +kernel
theorem ex2 : layR 18 [5, 0, 8, 3] = ([], 4) := by decide +kernel
theorem ex3 : trR exL 2 7 = (15, 0) := by decide +kernel
theorem ex4 : trR exL 2 8 = (0, 110) := by decide +kernel
theorem ex5 : trR exL 4 0 = (0, 6) := by decide +kernel
theorem ex6 : owR exL 17 = (3, 1, true) := by decide +kernel
theorem ex7 : owR exL 5 = (0, 0, false) := by decide +kernel
theorem map_pz (l : List Int) : (l.map pz).map Pt.z = l := by
  rw [List.map_map]
  exact (List.map_congr_left (fun _ _ => rfl)).trans (List.map_id l)
theorem isZ_lit (W : World) : isZ (some ⟨W.heap.size, 0, none⟩) [5, 0, 8, 3] (W.alloc (.cells #[.int .i64 5, .int .i64 0, .int .i64 8, .int .i64 3] 3)) := fun _ => by
  have hb := BoxN.new W 3 #[.int .i64 5, .int .i64 0, .int .i64 8, .int .i64 3]
  refine ⟨W.heap.size, 0, rfl, hb.lt, fun k x hk => ?_⟩
  rw [hb.cell]
  have hk4 : k < 4 := (List.getElem?_eq_some_iff.1 hk).1
  have : k = 0 ∨ k = 1 ∨ k = 2 ∨ k = 3 := by omega
  rcases this with rfl | rfl | rfl | rfl <;> (cases hk; rfl)
set_option maxRecDepth 100000 in
set_option maxHeartbeats 8000000 in
theorem awake_any (w : World) : Calls Try.prog 10 #[] w fun e w' => e = .returned (.bool true) ∧ Below w.heap.size w w' := by
  have HM : Hid (∀ (m : Int) (W : World), _) := fun m W => module_any m (some ⟨W.heap.size, 0, none⟩) 4 4 [5, 0, 8, 3] rfl (by decide) _ (isZ_lit W)
  have HY1 : Hid (∀ (A : Option Addr) (c : Nat) (W : World), isP A ([5, 0, 8, 3].map pz) W → Calls Try.prog 17 #[mdV ⟨#[]⟩ 32 0 A 4 c] W (LayP W (exL, 0))) := fun A c W h => by
    have := layout_any ⟨#[]⟩ 32 0 A c 4 _ rfl W h
    rwa [map_pz, ex1] at this
  have HY2 : Hid (∀ (A : Option Addr) (c : Nat) (W : World), isP A ([5, 0, 8, 3].map pz) W → Calls Try.prog 17 #[mdV ⟨#[]⟩ 18 0 A 4 c] W (LayP W ([], 4))) := fun A c W h => by
    have := layout_any ⟨#[]⟩ 18 0 A c 4 _ rfl W h
    rwa [map_pz, ex2] at this
  have HT : Hid (∀ (p a x y : Int) (G : Option Addr) (c : Nat) (W : World), trR exL p a = (x, y) → isG G exL W → Calls Try.prog 12 #[.slice G 4 c, .int .i64 p, .int .i64 a] W fun e w' => e = .returned (.tuple #[.int .i64 x, .int .i64 y]) ∧ Below W.heap.size W w') := fun p a x y G c W h hG => by
    have := trans_any G c 4 exL rfl (by decide) p a W hG
    rwa [h] at this
  have HO : Hid (∀ (a x y : Int) (z : Bool) (G : Option Addr) (c : Nat) (W : World), owR exL a = (x, y, z) → isG G exL W → Calls Try.prog 14 #[.slice G 4 c, .int .i64 a] W fun e w' => e = .returned (.tuple #[.int .i64 x, .int .i64 y, .bool z]) ∧ Below W.heap.size W w') := fun a x y z G c W h hG => by
    have := owner_any G c 4 exL rfl (by decide) a W hG
    rwa [h] at this
  have HS : Hid (∀ (X Y : Option Addr) (cx cy : Nat) (W : World), isG X exL W → isG Y exL W → Calls Try.prog 27 #[.slice X 4 cx, .slice Y 4 cy] W fun e w' => e = .returned (.bool true) ∧ Below W.heap.size W w') := fun X Y cx cy W h1 h2 => by
    have := sameR_any X Y cx cy 4 4 exL exL rfl rfl (by decide) (by decide) W h1 h2
    rwa [decide_eq_true rfl] at this
  simp only [mdV] at HM HY1 HY2
  go_enter Try.func10, Try.ntmps10
  go_wp2_with fail
  (with_reducible refine (HM.out 32 _).mono ?_); rintro _ w1 ⟨A1, c1, rfl, hP1, hb⟩
  have hB1 := below_alloc_trans hb
  clear hb
  go_wp2_with fail
  (with_reducible refine (HY1.out A1 c1 _ hP1).mono ?_); rintro _ w2 ⟨G, cG, rfl, hG, hb, -⟩
  have hB2 := hB1.trans (hb.mono hB1.size)
  clear hb hB1 hP1
  simp only at hG
  simp only [show exL.length = 4 from rfl]
  go_wp2_with fail
  (with_reducible refine (HM.out 18 _).mono ?_); rintro _ w3 ⟨A2, c2, rfl, hP2, hb⟩
  have hB3 := hB2.trans ((below_alloc_trans hb).mono hB2.size)
  replace hG := hG.keep (below_alloc_trans hb)
  clear hb hB2
  go_wp2_with fail
  (with_reducible refine (HY2.out A2 c2 _ hP2).mono ?_); rintro _ w4 ⟨G2, cG2, rfl, -, hb, -⟩
  have hB4 := hB3.trans (hb.mono hB3.size)
  replace hG := hG.keep hb
  clear hb hB3 hP2 HM HY1 HY2
  simp only [List.length_nil]
  go_wp2_with fail
  (with_reducible refine (HT.out 2 7 _ _ G cG w4 ex3 hG).mono ?_); rintro _ w5 ⟨rfl, hb⟩
  have hB5 := hB4.trans (hb.mono hB4.size)
  replace hG := hG.keep hb
  clear hb hB4
  go_wp2_with fail
  (with_reducible refine (HT.out 2 8 _ _ G cG w5 ex4 hG).mono ?_); rintro _ w6 ⟨rfl, hb⟩
  have hB6 := hB5.trans (hb.mono hB5.size)
  replace hG := hG.keep hb
  clear hb hB5
  go_wp2_with fail
  (with_reducible refine (HT.out 4 0 _ _ G cG w6 ex5 hG).mono ?_); rintro _ w7 ⟨rfl, hb⟩
  have hB7 := hB6.trans (hb.mono hB6.size)
  replace hG := hG.keep hb
  clear hb hB6
  go_wp2_with fail
  (with_reducible refine (HO.out 17 _ _ _ G cG w7 ex6 hG).mono ?_); rintro _ w8 ⟨rfl, hb⟩
  have hB8 := hB7.trans (hb.mono hB7.size)
  replace hG := hG.keep hb
  clear hb hB7
  go_wp2_with fail
  (with_reducible refine (HO.out 5 _ _ _ G cG w8 ex7 hG).mono ?_); rintro _ w9 ⟨rfl, hb⟩
  have hB9 := hB8.trans (hb.mono hB8.size)
  replace hG := hG.keep hb
  clear hb hB8 HT HO
  have hN := BoxN.new w9 45 #[.int .i64 0, .int .i64 0, .int .i64 5, .int .i64 1, .int .i64 8, .int .i64 0, .int .i64 2, .int .i64 8, .int .i64 8, .int .i64 3, .int .i64 16, .int .i64 3]
  have hLit : isG (some ⟨w9.heap.size, 0, none⟩) exL (w9.alloc (.cells #[.int .i64 0, .int .i64 0, .int .i64 5, .int .i64 1, .int .i64 8, .int .i64 0, .int .i64 2, .int .i64 8, .int .i64 8, .int .i64 3, .int .i64 16, .int .i64 3] 45)) := isG_of_cells hN.lt fun j u hu => by
    rw [Nat.zero_add, hN.cell]
    rw [← hu, ← Array.getElem?_toList]; rfl
  have hG2 := hG.keep ((Below.refl w9.heap.size w9).alloc (Nat.le_refl _) (.cells #[.int .i64 0, .int .i64 0, .int .i64 5, .int .i64 1, .int .i64 8, .int .i64 0, .int .i64 2, .int .i64 8, .int .i64 8, .int .i64 3, .int .i64 16, .int .i64 3] 45))
  have HS1 := Lib.hid (HS.out G (some ⟨w9.heap.size, 0, none⟩) cG 4 _ hG2 hLit)
  clear HS hLit hG2 hG hN
  go_wp2_with fail
  (with_reducible refine (HS1.out).mono ?_); rintro _ w10 ⟨rfl, hb⟩
  have hB10 := hB9.trans ((below_alloc_trans hb).mono hB9.size)
  go_wp2_with fail
  go_ret
  exact ⟨rfl, hB10⟩
end Me
end Go.Proofs.Ytdhofaiogbpjpaa
