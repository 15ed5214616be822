/- The contracts of Append and Check. -/
import Derived.Test.YtjlnaihlndmlfabUpd
import Derived.OwnWalk
namespace Go.Proofs.Ytjlnaihlndmlfab
open Go.RowKit Go.Joins

theorem infoB : (Try.prog.info? 5).map (fun i => (i.zero, i.size, i.bytes)) = some (some (.int .u8 0), 1, 1) := by kernel_rfl
/-- Bytes as cells. -/
def cellsB (l : List (BitVec 8)) : List Value := l.map U8
theorem cellsB_len (l : List (BitVec 8)) : (cellsB l).length = l.length := by simp [cellsB]
theorem cellsB_append (l m : List (BitVec 8)) : cellsB (l ++ m) = cellsB l ++ cellsB m := by simp [cellsB]
theorem cellsB_one (l : List (BitVec 8)) : ∀ u ∈ cellsB l, u.oneCell' = true := by
  intro u hu
  obtain ⟨b, _, rfl⟩ := List.mem_map.1 hu
  rfl
theorem cellsB_get (l : List (BitVec 8)) (k : Nat) : (cellsB l)[k]? = l[k]?.map U8 := by simp [cellsB]
/-- The cells that a slice of bytes reads, as the append's law wants them. -/
theorem isB.news {A : Option Addr} {l : List (BitVec 8)} {W : World} (h : isB A l W) : l.length ≠ 0 → ∃ ad, A = some ad ∧ ∀ j u, (cellsB l)[j]? = some u → W.cell? (ad.add j) = some u := fun hn => by
  obtain ⟨b, off, rfl, _, hr⟩ := h (by intro h; rw [h] at hn; simp at hn)
  refine ⟨_, rfl, fun j u hu => ?_⟩
  rw [cellsB_get] at hu
  obtain ⟨z, hz, rfl⟩ := Option.map_eq_some_iff.1 hu
  rw [Addr.add_lit]
  exact hr j z hz
/-- What the call's own row reads. -/
theorem isB_of_own {base : Nat} {W : World} {g : Option Addr} {n c : Nat} {l : List (BitVec 8)} (h : W.ownsRow base 5 1 (.slice g n c) n (cellsB l)) : isB g l W := fun hne => by
  have hlen : l.length = n := by have := h.1; rw [cellsB_len] at this; omega
  rcases h.2 with ⟨_, e⟩ | ⟨g', cap, cur, e, _, hg, _⟩
  · exact absurd (List.eq_nil_of_length_eq_zero (hlen.trans e)) hne
  · simp only [Value.slice.injEq] at e
    obtain ⟨rfl, _, _⟩ := e
    refine ⟨g', 0, rfl, (Array.getElem?_eq_some_iff.1 hg).1, fun k z hk => ?_⟩
    have := h.cells (g := g') rfl k (U8 z) (by rw [cellsB_get, hk]; rfl)
    rwa [Addr.add_lit] at this
theorem own_below {w w' : World} {base : Nat} {e : TypeId} {size n : Nat} {v : Value} {xs : List Value} (h : w.ownsRow base e size v n xs) (hb : Below w.heap.size w w') : w'.ownsRow base e size v n xs := by
  obtain ⟨h1, h2⟩ := h
  refine ⟨h1, ?_⟩
  rcases h2 with h2 | ⟨g, cap, cur, e1, e2, e3, e4⟩
  · exact .inl h2
  · exact .inr ⟨g, cap, cur, e1, e2, (hb.block g (Array.getElem?_eq_some_iff.1 e3).1).trans e3, e4⟩
theorem own_block_le {w : World} {base : Nat} {e : TypeId} {size n : Nat} {v : Value} {xs : List Value} (h : w.ownsRow base e size v n xs) : ∀ j, v.ownBlock = some j → base ≤ j := by
  intro j hj
  rcases h.2 with ⟨rfl, _⟩ | ⟨g, cap, cur, rfl, h2, _⟩
  · cases hj
  · cases hj; exact h2
theorem own_slice {w : World} {base : Nat} {e : TypeId} {size n : Nat} {v : Value} {xs : List Value} (h : w.ownsRow base e size v n xs) : ∃ g c, v = .slice g n c := by
  rcases h.2 with ⟨rfl, rfl⟩ | ⟨g, cap, cur, rfl, _⟩
  · exact ⟨_, _, rfl⟩
  · exact ⟨_, _, rfl⟩

theorem own_cap {w : World} {base : Nat} {e : TypeId} {size n c : Nat} {g : Option Addr} {xs : List Value} (h : w.ownsRow base e size (.slice g n c) n xs) : n ≤ c := by
  rcases h.2 with ⟨e1, e2⟩ | ⟨g', cap, cur, e, _, _, h4, _⟩
  · omega
  · simp only [Value.slice.injEq] at e
    obtain ⟨_, _, rfl⟩ := e
    exact h4

/-- A slice of length 0 adds nothing to a row of the call's own. -/
theorem app_any {P : Program} (w : World) {ops : Array Oper} {rest : List Oper} {o : Oper} {a : Act} {Q : Exit → Act → World → Prop} (hgd : o.guard = none) (s x : Operand) (t : TypeId)
    (ho : o.op = .call { callee := .builtin .append, args := #[s, x], argTypes := #[t, t] })
    (base : Nat) (e : TypeId) (i : TypeInfo) (z : Value) (size bytes : Nat) (ht : P.underlying t = some (.slice e)) (hi : P.info? e = some i) (hz : i.zero = some z)
    (hsize : i.size = size) (hby : i.bytes = bytes) (hzs : z.cells.size = size) (hsz : 0 < size)
    (sv : Value) (n : Nat) (xs : List Value) (hs : a.eval s = sv) (hown : w.ownsRow base e size sv n xs)
    (A : Option Addr) (m c : Nat) (news : List Value) (hx : a.eval x = .slice A m c) (hl : news.length = m * size) (hp : m ≠ 0 → ∃ ad, A = some ad ∧ ∀ j u, news[j]? = some u → w.cell? (ad.add j) = some u) (h1 : ∀ u ∈ news, u.oneCell' = true)
    (h63 : n + m ≤ maxLen) (hbytes : (n + m) * bytes ≤ 140737488355328) (hbase : base ≤ w.heap.size)
    (h : ∀ v' w', w'.ownsRow base e size v' (n + m) (xs ++ news) → w.grownBy w' sv.ownBlock → wpList P ops Q rest (a.put o.dst v') w') : wpList P ops Q (o :: rest) a w := by
  have h0 : m = 0 → news = [] := fun k => by subst k; exact List.eq_nil_of_length_eq_zero (by simpa using hl)
  rcases A with _ | ad
  · have hm : m = 0 := by
      by_cases k : m = 0
      · exact k
      · obtain ⟨_, h, _⟩ := hp k; cases h
    subst hm
    obtain rfl := h0 rfl
    have hrun : (Builtin.append_ #[t, t] o.type #[sv, .slice none 0 c]).run P w = .ok sv w := by
      rcases hown.2 with ⟨rfl, rfl⟩ | ⟨g, cap, cur, rfl, _, _, hnc, _⟩
      · simp [Builtin.append_, run_underlying ht, sizeOf, typeInfo, hi, Builtin.lenOf, Builtin.firstCells]
      · simp [Builtin.append_, run_underlying ht, sizeOf, typeInfo, hi, Builtin.lenOf, Builtin.firstCells, hnc, storeCells]
    refine wpList_plain hgd fun K hK => ?_
    unfold Oper.wp
    simp [execOp, ho, resolve, invoke, builtin, hs, hx, hrun, Result.andThen]
    exact hK _ _ (h sv w (by simpa using hown) (World.grownBy.refl _ _))
  · refine wpList_append_own w hgd s x t ho base e i z size bytes ht hi hz hsize hby hzs hsz sv n xs hs hown ad m c news hx hl ?_ h1 h63 hbytes hbase fun v' w' h2 h3 h4 => h v' w' h2 h3
    intro j u hu
    by_cases k : m = 0
    · rw [h0 k] at hu; simp at hu
    · obtain ⟨ad', e1, e2⟩ := hp k
      cases e1
      exact e2 j u hu

/-- The trailer of a sum. -/
def trailer (s : BitVec 32) : List (BitVec 8) := (List.range 4).map fun i => (s >>> (8 * i)).setWidth 8
theorem trailer_len (s : BitVec 32) : (trailer s).length = 4 := by simp [trailer]
theorem trailer_take (s : BitVec 32) (k : Nat) (hk : k < 4) : (trailer s).take (k + 1) = (trailer s).take k ++ [(s >>> (8 * k)).setWidth 8] :=
  take_snoc' (by simp [trailer, hk])
def app (l : List (BitVec 8)) : List (BitVec 8) := l ++ trailer (sum l)
theorem app_len (l : List (BitVec 8)) : (app l).length = l.length + 4 := by simp [app, trailer_len]

set_option maxRecDepth 100000 in
set_option maxHeartbeats 1000000 in
theorem append_any (A : Option Addr) (cap : Nat) (l : List (BitVec 8)) (hlen : l.length ≤ 1048576) (w : World) (hl : isB A l w) :
    Calls Try.prog 10 #[.slice A l.length cap] w fun e w' => ∃ B c, e = .returned (.slice B (l.length + 4) c) ∧ isB B (app l) w' ∧ l.length + 4 ≤ c ∧ Below w.heap.size w w' := by
  obtain ⟨i0, hi, hz0, hz1, hz2⟩ := info_parts infoB
  have hone := cellsB_one l
  go_enter Try.func10, Try.ntmps10
  go_wp2_with (first
    | (refine wpList_make_own _ rfl _ _ 22 rfl w.heap.size 5 i0 _ 1 Try.underlying22 hi hz0 hz1 .i64 .i64 _ (l.length + 4) rfl rfl (by omega) (by rw [hz2]; omega) (by unfold maxLen; omega) (Nat.le_refl _) ?_; intro w1 hown1 hg1; have hB1 : Below w.heap.size w w1 := (Below.refl _ w).grown hg1 (Nat.le_refl _) (fun _ h => by cases h); have hl1 := (hl.keep hB1).news)
    | (at_builtin; refine app_any _ rfl _ _ 22 rfl w.heap.size 5 i0 _ 1 1 Try.underlying22 hi hz0 hz1 hz2 rfl (by decide) (.slice (some ⟨w.heap.size, 0, none⟩) 0 (l.length + 4)) 0 [] rfl hown1 A l.length cap (cellsB l) rfl (by rw [cellsB_len]; omega) hl1 hone (by unfold maxLen; omega) (by omega) hB1.size ?_; intro v' w2 hown2 hg2))
  have hB2 : Below w.heap.size w w2 := hB1.grown hg2 hB1.size (fun k e => own_block_le hown1 k e)
  rw [Nat.zero_add, List.nil_append] at hown2
  have HS := Lib.hid (sum_any A cap l (by omega) w2 (hl.keep hB2))
  have hS : Hid (app l = l ++ trailer (sum l)) := rfl
  generalize sum l = s at HS hS
  clear hown1 hg1 hB1 hl1 hg2 hone
  (with_reducible refine HS.out.mono ?_); rintro e w3 ⟨rfl, hb⟩
  have hown3 := own_below hown2 hb
  have hB3 := hB2.trans (hb.mono hB2.size)
  clear hown2 hB2 hb HS
  go_wp2_with fail
  go_loopw [3, 4, 13] (fun v r i wr => ∃ k : Nat, k ≤ 4 ∧ i = .int .i64 k ∧ r = U32 (s >>> (8 * k)) ∧ wr.ownsRow w.heap.size 5 1 v (l.length + k) (cellsB (l ++ (trailer s).take k)) ∧ Below w.heap.size w wr)
    (fun _ _ i _ => 4 - (intOf i).toNat)
  case atStart => exact ⟨0, by omega, rfl, by simp, by simpa using hown3, hB3⟩
  case round =>
    clear hown3 hB3
    obtain ⟨k, hk, rfl, rfl, hown, hB⟩ := hrel
    by_cases hlt : k < 4
    · have ht : Hid (cellsB (l ++ (trailer s).take (k + 1)) = cellsB (l ++ (trailer s).take k) ++ [U8 ((s >>> (8 * k)).setWidth 8)]) := by
        unfold Hid; rw [trailer_take s k hlt, ← List.append_assoc, cellsB_append]; rfl
      have hsx : Hid (s >>> (8 * (k + 1)) = s >>> (8 * k) >>> 8) := by unfold Hid; rw [← BitVec.shiftRight_add]; rfl
      have e1 : ((s >>> (8 * k)).toNat : Int) % 256 = (((s >>> (8 * k)).setWidth 8).toNat : Int) := by rw [BitVec.toNat_setWidth]; omega
      have e2 : ((s >>> (8 * k)).toNat : Int) / (256 : Int) = ((s >>> (8 * k) >>> 8).toNat : Int) := by rw [BitVec.toNat_ushiftRight _ 8, Nat.shiftRight_eq_div_pow]; omega
      have hxl := (s >>> (8 * k)).isLt
      generalize (s >>> (8 * k)).setWidth 8 = z at ht e1
      obtain ⟨x', hx'⟩ : ∃ x', s >>> (8 * k) >>> 8 = x' := ⟨_, rfl⟩
      rw [hx'] at hsx e2
      clear hx'
      generalize s >>> (8 * k) = x at e1 e2 hxl ⊢
      obtain ⟨g, cg, rfl⟩ := own_slice hown
      have hown1 := hown.alloc (.cells #[U8 z] 5)
      have hN : (wr.alloc (.cells #[U8 z] 5)).heap[wr.heap.size]? = some (.cells #[U8 z] 5 (0, 0)) := heap_alloc_new wr _
      have hNews := Lib.hid (World.news_of_block hN)
      have hB1 := hB.alloc hB.size (.cells #[U8 z] 5)
      have hwb := own_block_le hown1
      have hwz := hB.size
      clear hN hown
      simp only [U32, U8] at hown1 hNews hB1 ⊢
      generalize x.toNat = x at e1 e2 hxl ⊢
      go_wp2_with (at_builtin; refine app_any _ rfl _ _ 22 rfl w.heap.size 5 i0 _ 1 1 Try.underlying22 hi hz0 hz1 hz2 rfl (by decide) (.slice g (l.length + k) cg) (l.length + k) _ rfl hown1 (some ⟨wr.heap.size, 0, none⟩) 1 1 [.int .u8 (z.toNat : Int)] rfl rfl (fun _ => ⟨_, rfl, hNews.out⟩) (by simp [Value.oneCell']) (by unfold maxLen; omega) (by omega) (by simp; omega) ?_; intro v2 w4 hown4 hg4; have hB4 := hB1.grown hg4 (by simp; omega) hwb)
      go_roundw
      case rel => exact ⟨k + 1, by omega, by go_num, by rw [hsx.out], by rw [ht.out]; exact hown4, hB4⟩
      case measure => simp [intOf]; omega
    · obtain rfl : k = 4 := by omega
      have hts : Hid ((trailer s).take 4 = trailer s) := List.take_of_length_le (by rw [trailer_len]; omega)
      rw [hts.out] at hown
      obtain ⟨g, cg, rfl⟩ := own_slice hown
      have hr := Lib.hid (isB_of_own (l := l ++ trailer s) (by simpa [trailer_len] using hown))
      have hcap := own_cap hown
      clear hown
      generalize s >>> (8 * 4) = x
      go_wp2_with fail
      go_ret
      exact ⟨g, cg, rfl, by rw [hS.out]; exact hr.out, hcap, hB⟩
end Go.Proofs.Ytjlnaihlndmlfab
