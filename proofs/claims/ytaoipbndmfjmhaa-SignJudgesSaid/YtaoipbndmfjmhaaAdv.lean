/- The contracts of advanced and of its closure. -/
import Derived.Test.YtaoipbndmfjmhaaSecr
namespace Go.Proofs.Ytaoipbndmfjmhaa
open Go.RowKit Go.Joins

theorem rowW_set (u : Nat → BitVec 64) (n k : Nat) (v : BitVec 64) : (rowW u n).setIfInBounds k (U64 v) = rowW (fun i => if i = k then v else u i) n := by
  apply Array.ext_getElem?
  intro i
  rw [Array.getElem?_setIfInBounds, rowW_size]
  by_cases hi : i < n
  · rw [rowW_get _ _ _ hi, rowW_get _ _ _ hi]
    by_cases e : k = i
    · subst e; simp [hi]
    · rw [if_neg e, if_neg (fun h => e h.symm)]
  · rw [Array.getElem?_eq_none (by rw [rowW_size]; omega), Array.getElem?_eq_none (by rw [rowW_size]; omega)]
    by_cases e : k = i
    · subst e; simp [hi]
    · rw [if_neg e]

set_option maxRecDepth 100000 in
set_option maxHeartbeats 1000000 in
theorem advance_any (ga gb : Nat) (a b : Nat → Nat) (i : Nat) (hi : i < 18) (hb : b i ≤ 15) (x : BitVec 64) (w : World) (ba : BoxN w ga 24 (rowI a 18)) (bb : BoxN w gb 24 (rowI b 18)) :
    Calls Try.prog 59 #[.int .i64 i, U64 x, .pointer (some ⟨ga, 0, none⟩), .pointer (some ⟨gb, 0, none⟩)] w fun e w' => e = .returned (U64 (advTo i (a i) (b i) x)) ∧ Below w.heap.size w w' := by
  have ca := ba.cell i
  rw [rowI_get a 18 i hi] at ca
  have hal := ba.lt
  have HS : Hid (∀ (k : Int) (x : BitVec 64) (W : World), _) := fun k x W => step_any (i : Int) k x W
  have hB : Below w.heap.size w w := Below.refl _ _
  have hal := ba.lt
  have hbl := bb.lt
  have cb := bb.cell i
  rw [rowI_get b 18 i hi] at cb
  have hd : decide ((i : Int) < 18) = true := by simp; omega
  have HR : Hid (∀ n, advTo i (a i) n x = advTo i (a i) n x) := fun _ => rfl
  have Hs : Hid (∀ n, a i ≤ n → advTo i (a i) (n + 1) x = stp i n (advTo i (a i) n x)) := fun n h => advTo_succ h x
  have H0 : Hid (advTo i (a i) (a i) x = x) := advTo_self _ _ _
  have Hend : Hid (¬ a i < b i → advTo i (a i) (b i) x = x) := fun h => by unfold advTo; rw [show b i - a i = 0 by omega]; rfl
  clear ba
  generalize a i = ai at *
  generalize b i = bi at *
  go_enter Try.func59, Try.ntmps59
  go_wp2_with fail
  go_loopw [1, 7] (fun y k wr => ∃ n : Nat, ai ≤ n ∧ (n ≤ bi ∨ n = ai) ∧ k = .int .i64 n ∧ y = U64 (advTo i ai n x) ∧ Below w.heap.size w wr)
    (fun _ k _ => (16 - intOf k).toNat)
  case atStart => exact ⟨ai, Nat.le_refl _, .inr rfl, rfl, by rw [H0.out], hB⟩
  case round =>
    clear hB
    obtain ⟨n, hn, hnb, rfl, rfl, hB⟩ := hrel
    replace cb := (hB.cell (p := ⟨gb, i, none⟩) hbl).trans cb
    by_cases hlt : n < bi
    · have hl : decide ((n : Int) < (bi : Int)) = true := by simp; omega
      have hstep := Hs.out n hn
      have HSn := Lib.hid (HS.out (n : Int) (advTo i ai n x) wr)
      rw [← hstep] at HSn
      clear hstep
      obtain ⟨y1, hy1⟩ : ∃ y, advTo i ai (n + 1) x = y := ⟨_, rfl⟩
      rw [hy1] at HSn
      have HY := Lib.hid hy1
      clear hy1
      generalize advTo i ai n x = y0 at *
      have hzz := hB.size
      go_wp2_with fail
      (with_reducible refine HSn.out.mono ?_); rintro e w1 ⟨rfl, hb1⟩
      replace hB := Lib.hid (hB.trans (hb1.mono hzz))
      clear hb1
      go_wp2_with fail
      go_roundw
      case rel => exact ⟨n + 1, by omega, .inl (by omega), by go_num, by rw [HY.out], hB.out⟩
      case measure => simp [intOf]; omega
    · have hl : decide ((n : Int) < (bi : Int)) = false := by simp; omega
      have he : Hid (advTo i ai bi x = advTo i ai n x) := by
        unfold Hid
        by_cases h : ai < bi
        · rw [show n = bi by omega]
        · rw [Hend.out h, show n = ai by omega, H0.out]
      generalize advTo i ai n x = y0 at *
      go_wp2_with fail
      go_ret
      exact ⟨by rw [he.out]; rfl, hB⟩

/-- The row when the first k chains are advanced. -/
def mixW (f F : Nat → BitVec 64) (k : Nat) : Array Value := rowW (fun i => if i < k then F i else f i) 18
theorem mixW_zero (f F : Nat → BitVec 64) : mixW f F 0 = rowW f 18 := rowW_congr fun i _ => by simp
theorem mixW_full (f F : Nat → BitVec 64) : mixW f F 18 = rowW F 18 := rowW_congr fun i h => by rw [if_pos h]
theorem mixW_size (f F : Nat → BitVec 64) (k : Nat) : (mixW f F k).size = 18 := rowW_size _ _
theorem mixW_set (f F : Nat → BitVec 64) (k : Nat) : (mixW f F k).setIfInBounds k (U64 (F k)) = mixW f F (k + 1) := by
  unfold mixW
  rw [rowW_set]
  refine rowW_congr fun i _ => ?_
  by_cases e : i = k
  · subst e; rw [if_pos rfl, if_pos (by omega)]
  · rw [if_neg e]
    by_cases h : i < k
    · rw [if_pos h, if_pos (by omega)]
    · rw [if_neg h, if_neg (by omega)]
theorem mixW_get (f F : Nat → BitVec 64) (k : Nat) (h : k < 18) : (mixW f F k)[k]? = some (U64 (f k)) := by
  unfold mixW; rw [rowW_get _ _ _ h, if_neg (Nat.lt_irrefl k)]

set_option maxRecDepth 100000 in
set_option maxHeartbeats 2000000 in
theorem advanced_any (f : Nat → BitVec 64) (a b : Nat → Nat) (hb : ∀ i, i < 18 → b i ≤ 15) (w : World) :
    Calls Try.prog 38 #[.agg (rowW f 18), .agg (rowI a 18), .agg (rowI b 18)] w fun e w' => e = .returned (.agg (rowW (fun i => advTo i (a i) (b i) (f i)) 18)) ∧ Below w.heap.size w w' := by
  have hz : ∀ w : World, (zeroValue 31).run Try.prog w = .ok (.agg (parV 18 (fun _ => .int .u64 0) (.int .u64 0) 0)) w := zero_tW _
  have HA : Hid (∀ (ga gb i : Nat) (_ : i < 18) (W : World), BoxN W ga 24 (rowI a 18) → BoxN W gb 24 (rowI b 18) → Calls Try.prog 59 #[.int .i64 i, U64 (f i), .pointer (some ⟨ga, 0, none⟩), .pointer (some ⟨gb, 0, none⟩)] W fun e w' => e = .returned (U64 (advTo i (a i) (b i) (f i))) ∧ Below W.heap.size W w') :=
    fun ga gb i hi W h1 h2 => advance_any ga gb a b i hi (hb i hi) (f i) W h1 h2
  obtain ⟨F, hF⟩ : ∃ F : Nat → BitVec 64, (fun i => advTo i (a i) (b i) (f i)) = F := ⟨_, rfl⟩
  have hF' : ∀ i, advTo i (a i) (b i) (f i) = F i := fun i => congrFun hF i
  simp only [hF'] at HA
  rw [hF]
  clear hF hF' hb
  have hi0 : (Try.prog.info? 31).map (·.size) = some (rowW f 18).size := by rw [rowW_size]; exact info_tW
  have H0 : Hid (mixW f F 0 = rowW f 18) := mixW_zero f F
  have HG0 : Hid (∀ k, k < 18 → (rowW f 18)[k]? = some (U64 (f k))) := fun k h => rowW_get f 18 k h
  have hfs : (rowW f 18).size = 18 := rowW_size _ _
  generalize rowW f 18 = Rf at *
  generalize rowI a 18 = Ra at *
  generalize rowI b 18 = Rb at *
  obtain ⟨Z, hZ⟩ : ∃ Z, parV 18 (fun _ => Value.int .u64 0) (.int .u64 0) 0 = Z := ⟨_, rfl⟩
  rw [hZ] at hz
  have hZs : Z.size = 18 := by rw [← hZ, parV_size]
  clear hZ
  go_enter Try.func38, Try.ntmps38
  go_upto_region 2 with fail
  clear hz
  have b0 : BoxN ((((w.alloc (.cells Rf 31)).alloc (.cells Ra 24)).alloc (.cells Rb 24)).alloc (.cells Z 31)) w.heap.size 31 Rf := (((BoxN.new w _ _).alloc _).alloc _).alloc _
  have ba : BoxN ((((w.alloc (.cells Rf 31)).alloc (.cells Ra 24)).alloc (.cells Rb 24)).alloc (.cells Z 31)) (w.heap.size + 1) 24 Ra := by
    have := ((BoxN.new (w.alloc (.cells Rf 31)) 24 Ra).alloc (.cells Rb 24)).alloc (.cells Z 31)
    rwa [World.size_alloc] at this
  have bb : BoxN ((((w.alloc (.cells Rf 31)).alloc (.cells Ra 24)).alloc (.cells Rb 24)).alloc (.cells Z 31)) (w.heap.size + 1 + 1) 24 Rb := by
    have := (BoxN.new ((w.alloc (.cells Rf 31)).alloc (.cells Ra 24)) 24 Rb).alloc (.cells Z 31)
    rwa [World.size_alloc, World.size_alloc] at this
  have bz : BoxN ((((w.alloc (.cells Rf 31)).alloc (.cells Ra 24)).alloc (.cells Rb 24)).alloc (.cells Z 31)) (w.heap.size + 1 + 1 + 1) 31 Z := by
    have := BoxN.new (((w.alloc (.cells Rf 31)).alloc (.cells Ra 24)).alloc (.cells Rb 24)) 31 Z
    rwa [World.size_alloc, World.size_alloc, World.size_alloc] at this
  have hB : Below w.heap.size w ((((w.alloc (.cells Rf 31)).alloc (.cells Ra 24)).alloc (.cells Rb 24)).alloc (.cells Z 31)) :=
    ((((Below.refl _ w).alloc (Nat.le_refl _) _).alloc (by simp) _).alloc (by simp; omega) _).alloc (by simp; omega) _
  generalize (((w.alloc (.cells Rf 31)).alloc (.cells Ra 24)).alloc (.cells Rb 24)).alloc (.cells Z 31) = W at b0 ba bb bz hB ⊢
  obtain ⟨g, hg⟩ : ∃ g, w.heap.size = g := ⟨_, rfl⟩
  rw [hg] at b0 ba bb bz hB ⊢
  have HG := Lib.hid hg
  clear hg
  obtain ⟨ga, hga⟩ : ∃ ga, g + 1 = ga := ⟨_, rfl⟩
  rw [hga] at ba bb bz ⊢
  obtain ⟨gb, hgb⟩ : ∃ gb, ga + 1 = gb := ⟨_, rfl⟩
  rw [hgb] at bb bz ⊢
  obtain ⟨gz, hgz⟩ : ∃ gz, gb + 1 = gz := ⟨_, rfl⟩
  rw [hgz] at bz ⊢
  have dag : ga ≠ g := by omega
  have dbg : gb ≠ g := by omega
  have dzg : gz ≠ g := by omega
  have lz : g ≤ gz := by omega
  clear hga hgb hgz
  have b0' : W.heap[g]? = some (.cells Rf 31 (0, 0)) := b0
  go_wp2_with (refine wpList_load_row rfl 31 _ rfl g rfl _ Rf _ _ b0' Try.underlying31 rfl hi0 ?_)
  clear b0'
  rw [← H0.out] at b0
  go_loopw [12] (fun i wr => ∃ k : Nat, k ≤ 18 ∧ i = .int .i64 k ∧ BoxN wr g 31 (mixW f F k) ∧ BoxN wr ga 24 Ra ∧ BoxN wr gb 24 Rb ∧ BoxN wr gz 31 Z ∧ Below g w wr)
    (fun i _ => (18 - intOf i).toNat)
  case atStart => exact ⟨0, by omega, rfl, b0, ba, bb, bz, hB⟩
  case round =>
    clear b0 ba bb bz hB
    obtain ⟨k, hk, rfl, b0, ba, bb, bz, hB⟩ := hrel
    by_cases hlt : k < 18
    · have hd : decide ((k : Int) < 18) = true := by simp; omega
      have ck := run_index_W hlt (HG0.out k hlt)
      have HAk := Lib.hid (HA.out ga gb k hlt wr ba bb)
      have hge : g ≤ wr.heap.size := by have := hB.size; rw [HG.out] at this; exact this
      have hs : Hid ((mixW f F k).setIfInBounds k (U64 (F k)) = mixW f F (k + 1)) := mixW_set f F k
      have hg0 : Hid ((mixW f F k)[k]? = some (U64 (f k))) := mixW_get f F k hlt
      generalize mixW f F k = M at *
      generalize F k = y at *
      generalize f k = x at *
      go_wp2_with fail
      (with_reducible refine HAk.out.mono ?_); rintro e w1 ⟨rfl, hb1⟩
      replace b0 := b0.keep hb1
      replace ba := ba.keep hb1
      replace bb := bb.keep hb1
      replace bz := bz.keep hb1
      replace hB := hB.trans (hb1.mono hge)
      have c0 := b0.cell k
      rw [hg0.out] at c0
      have f0 := b0.frozen k
      have hbl := b0.lt
      have k0 := Lib.hid (b0.set1 k (U64 y))
      have ka := Lib.hid (ba.far (p := ⟨g, k, none⟩) dag (U64 y))
      have kb := Lib.hid (bb.far (p := ⟨g, k, none⟩) dbg (U64 y))
      have kz := Lib.hid (bz.far (p := ⟨g, k, none⟩) dzg (U64 y))
      have kB := Lib.hid (hB.setCell (p := ⟨g, k, none⟩) (Nat.le_refl _) (U64 y))
      clear b0 ba bb bz hB hb1 HAk ck
      go_wp2_with fail
      go_roundw
      case rel => exact ⟨k + 1, by omega, by go_num, by rw [← hs.out]; exact k0.out, ka.out, kb.out, kz.out, kB.out⟩
      case measure => simp [intOf]; omega
    · obtain rfl : k = 18 := by omega
      have hR18 : Hid (mixW f F 18 = rowW F 18) := mixW_full f F
      have hi : (Try.prog.info? 31).map (·.size) = some (mixW f F 18).size := by rw [mixW_size]; exact info_tW
      have ho : (mixW f F 18).all (·.oneCell') = true := rowW_one _ _
      have hs : Z.size = (mixW f F 18).size := by rw [mixW_size]; exact hZs
      have b0' : wr.heap[gz]? = some (.cells Z 31 (0, 0)) := bz
      have b1' : wr.heap[g]? = some (.cells (mixW f F 18) 31 (0, 0)) := b0
      have b2' : (wr.setRow gz (mixW f F 18)).heap[gz]? = some (.cells (mixW f F 18) 31 (0, 0)) := BoxN.setRow bz _
      have hB3 := below_setRow hB lz (mixW f F 18)
      clear b0 bz ba bb hB hZs hi0 hfs
      generalize mixW f F 18 = T at *
      go_wp2_with (first | (refine wpList_load_row rfl 31 _ rfl g rfl _ T _ _ b1' Try.underlying31 rfl hi ?_) | (refine wpList_store_rowTo rfl 31 _ _ rfl rfl gz T rfl rfl _ Z b0' hi hs ho ?_))
      exact bodyPost_ret (v := .agg T) (results_cell_row Try.results38 _ _ gz _ T _ _ rfl b2' Try.underlying31 rfl hi) rfl ⟨by rw [hR18.out], by rw [HG.out]; exact hB3⟩
end Go.Proofs.Ytaoipbndmfjmhaa
