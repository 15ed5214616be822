/- Bytes that are an encoding, and bytes that are none. -/
import Derived.Test.YtaoipbndmfjmhaaDecOk
import Derived.Test.YtaoipbndmfjmhaaRjB
namespace Go.Proofs.Ytaoipbndmfjmhaa
open Go.RowKit Go.Joins

/-- Bytes that Decode takes. -/
def wfB (l : List (BitVec 8)) : Prop := ∃ a b : BitVec 8, l[0]? = some a ∧ l[1]? = some b ∧ okK (a.toNat : Int) (b.toNat : Int) = true ∧ l.length = 146 + 8 * b.toNat
def mk8 (g : Nat → BitVec 8) : BitVec 64 := BitVec.ofNat 64 ((g 0).toNat + 256 * (g 1).toNat + 65536 * (g 2).toNat + 16777216 * (g 3).toNat + 4294967296 * (g 4).toNat + 1099511627776 * (g 5).toNat + 281474976710656 * (g 6).toNat + 72057594037927936 * (g 7).toNat)
theorem mk8_nat (g : Nat → BitVec 8) : (mk8 g).toNat = (g 0).toNat + 256 * (g 1).toNat + 65536 * (g 2).toNat + 16777216 * (g 3).toNat + 4294967296 * (g 4).toNat + 1099511627776 * (g 5).toNat + 281474976710656 * (g 6).toNat + 72057594037927936 * (g 7).toNat := by
  unfold mk8
  rw [BitVec.toNat_ofNat, Nat.mod_eq_of_lt]
  have h0 := (g 0).isLt
  have h1 := (g 1).isLt
  have h2 := (g 2).isLt
  have h3 := (g 3).isLt
  have h4 := (g 4).isLt
  have h5 := (g 5).isLt
  have h6 := (g 6).isLt
  have h7 := (g 7).isLt
  omega
theorem byteF_mk (g : Nat → BitVec 8) (j : Nat) (hj : j < 8) : byteF (mk8 g) j = g j := by
  apply BitVec.eq_of_toNat_eq
  have e := byteF_nat (mk8 g) j
  rw [mk8_nat] at e
  have h0 := (g 0).isLt
  have h1 := (g 1).isLt
  have h2 := (g 2).isLt
  have h3 := (g 3).isLt
  have h4 := (g 4).isLt
  have h5 := (g 5).isLt
  have h6 := (g 6).isLt
  have h7 := (g 7).isLt
  have hj' : j = 0 ∨ j = 1 ∨ j = 2 ∨ j = 3 ∨ j = 4 ∨ j = 5 ∨ j = 6 ∨ j = 7 := by omega
  generalize byteF (mk8 g) j = y at *
  rcases hj' with rfl | rfl | rfl | rfl | rfl | rfl | rfl | rfl <;> simp only [Nat.reducePow] at e <;> omega
theorem wds_add (a b : Nat) (f : Nat → BitVec 64) : wds (a + b) f = wds a f ++ wds b fun i => f (a + i) := by
  unfold wds
  rw [List.range_add, List.map_append, List.map_map]
  rfl
theorem bytesL_at (f : Nat → BitVec 64) (n i : Nat) (h : i < 8 * n) : (bytesL (wds n f))[i]? = some (byteF (f (i / 8)) (i % 8)) := by
  have h1 := bytesL_get (wds n f) (i / 8) (i % 8) (f (i / 8)) (wds_get _ _ _ (by omega)) (by omega)
  rwa [show i / 8 * 8 + i % 8 = i by omega] at h1
theorem lo8_toNat (a : BitVec 8) : lo8 (a.toNat : Int) = a := by
  apply BitVec.eq_of_toNat_eq
  have h := a.isLt
  have := lo8_byte (v := (a.toNat : Int)) (by omega) (by omega)
  omega
theorem wf_enc {l : List (BitVec 8)} (h : wfB l) : ∃ (m : Nat) (f : Nat → BitVec 64) (ls : List (BitVec 64)), okK (m : Int) (ls.length : Int) = true ∧ l = encB (m : Int) f ls := by
  obtain ⟨a, b, h0, h1, hk, hl⟩ := h
  refine ⟨a.toNat, fun i => mk8 fun j => l.getD (2 + 8 * i + j) 0#8, wds b.toNat fun i => mk8 fun j => l.getD (2 + 8 * (18 + i) + j) 0#8, by rw [wds_len]; exact hk, ?_⟩
  unfold encB
  rw [wds_len, lo8_toNat, lo8_toNat, List.append_assoc, ← bytesL_append, ← wds_add 18 b.toNat (fun i => mk8 fun j => l.getD (2 + 8 * i + j) 0#8)]
  apply List.ext_getElem?
  intro i
  by_cases hi : i < l.length
  · rcases i with _ | _ | i
    · rw [h0]; rfl
    · rw [h1]; rfl
    · have h2 : ([a, b] ++ bytesL (wds (18 + b.toNat) fun i => mk8 fun j => l.getD (2 + 8 * i + j) 0#8))[i + 1 + 1]? = (bytesL (wds (18 + b.toNat) fun i => mk8 fun j => l.getD (2 + 8 * i + j) 0#8))[i]? := by simp
      rw [h2, bytesL_at _ _ _ (by omega), byteF_mk _ _ (by omega), show 2 + 8 * (i / 8) + i % 8 = i + 1 + 1 by omega, List.getD_eq_getElem?_getD, List.getElem?_eq_getElem hi]
      rfl
  · rw [List.getElem?_eq_none (by omega), List.getElem?_eq_none (by rw [List.length_append, bytesL_len, wds_len]; simp; omega)]

set_option maxRecDepth 100000 in
set_option maxHeartbeats 2000000 in
theorem decode_short (A : Option Addr) (cap n : Nat) (hn : n < 2) (w : World) :
    Calls Try.prog 25 #[.slice A n cap] w fun e w' => e = .returned (.tuple #[.agg #[.int .i64 0, .int .u64 0, .int .u64 0, .int .u64 0, .int .u64 0, .int .u64 0, .int .u64 0, .int .u64 0, .int .u64 0, .int .u64 0, .int .u64 0, .int .u64 0, .int .u64 0, .int .u64 0, .int .u64 0, .int .u64 0, .int .u64 0, .int .u64 0, .int .u64 0, .slice none 0 0], .int .i64 60]) ∧ Below w.heap.size w w' := by
  have hzs := zero_sig
  have hi2 : (Try.prog.info? 34).map (·.size) = some (#[.int .i64 0, .int .u64 0, .int .u64 0, .int .u64 0, .int .u64 0, .int .u64 0, .int .u64 0, .int .u64 0, .int .u64 0, .int .u64 0, .int .u64 0, .int .u64 0, .int .u64 0, .int .u64 0, .int .u64 0, .int .u64 0, .int .u64 0, .int .u64 0, .int .u64 0, .slice none 0 0] : Array Value).size := info_sig
  have ho2 : (#[.int .i64 0, .int .u64 0, .int .u64 0, .int .u64 0, .int .u64 0, .int .u64 0, .int .u64 0, .int .u64 0, .int .u64 0, .int .u64 0, .int .u64 0, .int .u64 0, .int .u64 0, .int .u64 0, .int .u64 0, .int .u64 0, .int .u64 0, .int .u64 0, .int .u64 0, .slice none 0 0] : Array Value).all (·.oneCell') = true := by decide +kernel
  obtain ⟨Z, hZ⟩ : ∃ Z, (#[.int .i64 0, .int .u64 0, .int .u64 0, .int .u64 0, .int .u64 0, .int .u64 0, .int .u64 0, .int .u64 0, .int .u64 0, .int .u64 0, .int .u64 0, .int .u64 0, .int .u64 0, .int .u64 0, .int .u64 0, .int .u64 0, .int .u64 0, .int .u64 0, .int .u64 0, .slice none 0 0] : Array Value) = Z := ⟨_, rfl⟩
  rw [hZ] at hzs hi2 ho2 ⊢
  clear hZ
  have hd2 : decide ((n : Int) < 2) = true := by simp; omega
  have hB : Below w.heap.size w (w.alloc (.cells Z 34)) := (Below.refl _ w).alloc (Nat.le_refl _) _
  have b8 : BoxN (w.alloc (.cells Z 34)) w.heap.size 34 Z := BoxN.new w _ _
  have b8' : (w.alloc (.cells Z 34)).heap[w.heap.size]? = some (.cells Z 34 (0, 0)) := b8
  have b2 : BoxN ((w.alloc (.cells Z 34)).setRow w.heap.size Z) w.heap.size 34 Z := b8.setRow _
  have hB2 := below_setRow hB (Nat.le_refl w.heap.size) Z
  go_enter Try.func25, Try.ntmps25
  go_wp2_with (refine wpList_store_rowTo rfl 34 _ _ rfl rfl w.heap.size Z rfl rfl _ Z b8' hi2 rfl ho2 ?_)
  exact bodyPost_ret (v := .tuple #[.agg Z, .int .i64 60]) (results_cell_tmp Try.results25 _ _ w.heap.size _ Z _ rfl b2 Try.underlying34 rfl hi2) rfl ⟨rfl, hB2⟩

set_option maxRecDepth 100000 in
set_option maxHeartbeats 4000000 in
theorem decode_bad (A : Option Addr) (cap : Nat) (l : List (BitVec 8)) (a b : BitVec 8) (h0 : l[0]? = some a) (h1 : l[1]? = some b) (hbad : okK (a.toNat : Int) (b.toNat : Int) = false ∨ l.length ≠ 146 + 8 * b.toNat) (hlen : l.length ≤ 100000) (hcap : l.length ≤ cap) (w : World) (hl : isB A l w) :
    Calls Try.prog 25 #[.slice A l.length cap] w fun e w' => e = .returned (.tuple #[.agg #[.int .i64 0, .int .u64 0, .int .u64 0, .int .u64 0, .int .u64 0, .int .u64 0, .int .u64 0, .int .u64 0, .int .u64 0, .int .u64 0, .int .u64 0, .int .u64 0, .int .u64 0, .int .u64 0, .int .u64 0, .int .u64 0, .int .u64 0, .int .u64 0, .int .u64 0, .slice none 0 0], .int .i64 60]) ∧ Below w.heap.size w w' := by
  obtain ⟨K, hK⟩ : ∃ K, okK (a.toNat : Int) (b.toNat : Int) = K := ⟨_, rfl⟩
  have HK : Hid (∀ W : World, Calls Try.prog 44 #[.int .i64 (a.toNat : Nat), .int .i64 (b.toNat : Nat)] W fun e w' => e = .returned (.bool K) ∧ Below W.heap.size W w') := fun W => by
    have := isKey_any a.toNat b.toNat W
    rwa [hK] at this
  rw [hK] at hbad
  have hzs := zero_sig
  have hi2 : (Try.prog.info? 34).map (·.size) = some (#[.int .i64 0, .int .u64 0, .int .u64 0, .int .u64 0, .int .u64 0, .int .u64 0, .int .u64 0, .int .u64 0, .int .u64 0, .int .u64 0, .int .u64 0, .int .u64 0, .int .u64 0, .int .u64 0, .int .u64 0, .int .u64 0, .int .u64 0, .int .u64 0, .int .u64 0, .slice none 0 0] : Array Value).size := info_sig
  have ho2 : (#[.int .i64 0, .int .u64 0, .int .u64 0, .int .u64 0, .int .u64 0, .int .u64 0, .int .u64 0, .int .u64 0, .int .u64 0, .int .u64 0, .int .u64 0, .int .u64 0, .int .u64 0, .int .u64 0, .int .u64 0, .int .u64 0, .int .u64 0, .int .u64 0, .int .u64 0, .slice none 0 0] : Array Value).all (·.oneCell') = true := by decide +kernel
  obtain ⟨Z, hZ⟩ : ∃ Z, (#[.int .i64 0, .int .u64 0, .int .u64 0, .int .u64 0, .int .u64 0, .int .u64 0, .int .u64 0, .int .u64 0, .int .u64 0, .int .u64 0, .int .u64 0, .int .u64 0, .int .u64 0, .int .u64 0, .int .u64 0, .int .u64 0, .int .u64 0, .int .u64 0, .int .u64 0, .slice none 0 0] : Array Value) = Z := ⟨_, rfl⟩
  rw [hZ] at hzs hi2 ho2 ⊢
  clear hZ
  have hl1 : 1 < l.length := (List.getElem?_eq_some_iff.1 h1).1
  have hB : Below w.heap.size w (w.alloc (.cells Z 34)) := (Below.refl _ w).alloc (Nat.le_refl _) _
  obtain ⟨bb, off, rfl, hbl, hr⟩ := hl.keep hB (by intro e; rw [e] at hl1; simp at hl1)
  have c0 := hr 0 _ h0
  have c1 := hr 1 _ h1
  rw [Nat.add_zero] at c0
  have ha := a.isLt
  have hb := b.isLt
  unfold U8 at c0 c1
  generalize a.toNat = q at *
  generalize b.toNat = h at *
  clear hr h0 h1 hl hK
  generalize l.length = n at *
  have hd2 : decide ((n : Int) < 2) = false := by simp; omega
  have hx0 : 0 < n := by omega
  have hcc : (2 < cap) ∨ (cap = 2 ∧ n = 2) := by omega
  have hcmp : K = true → (((n - 2 : Nat) : Int) != (18 + (h : Int)) * 8) = true := fun hk => by
    rcases hbad with e | e
    · rw [hk] at e; cases e
    · rw [bne_iff_ne]; omega
  clear hbad
  have b8 : BoxN (w.alloc (.cells Z 34)) w.heap.size 34 Z := BoxN.new w _ _
  go_enter Try.func25, Try.ntmps25
  cases K
  all_goals
    try (have hcmp2 := hcmp rfl)
    clear hcmp
    rcases hcc with hc2 | ⟨rfl, rfl⟩
    all_goals
      go_wp2_with fail
      go_quiet (fail)
      rename_i nq
      replace b8 := b8.drewN nq
      replace hB := below_drewN hB nq
      go_wp2_with fail
      (with_reducible refine (HK.out _).mono ?_); rintro e w1 ⟨rfl, hb1⟩
      replace b8 := b8.keep hb1
      replace hB := hB.trans (hb1.mono hB.size)
      clear hb1 c0 c1 hbl
      have b8' : w1.heap[w.heap.size]? = some (.cells Z 34 (0, 0)) := b8
      have b2 : BoxN (w1.setRow w.heap.size Z) w.heap.size 34 Z := b8.setRow _
      have hB2 := below_setRow hB (Nat.le_refl w.heap.size) Z
      go_wp2_with (refine wpList_store_rowTo rfl 34 _ _ rfl rfl w.heap.size Z rfl rfl _ Z b8' hi2 rfl ho2 ?_)
      exact bodyPost_ret (v := .tuple #[.agg Z, .int .i64 60]) (results_cell_tmp Try.results25 _ _ w.heap.size _ Z _ rfl b2 Try.underlying34 rfl hi2) rfl ⟨rfl, hB2⟩
end Go.Proofs.Ytaoipbndmfjmhaa
