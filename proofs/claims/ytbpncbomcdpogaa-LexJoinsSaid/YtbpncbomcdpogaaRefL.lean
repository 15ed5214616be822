/- The contract of the reference's Lex. -/
import Derived.Test.YtbpncbomcdpogaaRefC
import Derived.Test.YtbpncbomcdpogaaSplitM
namespace Go.Proofs.Ytbpncbomcdpogaa
open Go.RowKit Go.Joins

theorem infoU : (Try.prog.info? 50).map (fun i => (i.zero, i.size, i.bytes)) = some (some (.agg #[.int .i64 0, .string ⟨#[]⟩, .int .i64 0]), 3, 32) := by kernel_rfl
theorem zero_rt : ∀ w : World, (zeroValue 50).run Try.prog w = .ok (.agg #[.int .i64 0, .string ⟨#[]⟩, .int .i64 0]) w := fun _ => by kernel_rfl
theorem scan_hash {l : List (BitVec 8)} {k : Nat} (h : l[k]? = some 35#8) : scan k (l.drop k) = scan (k + cnt notNl (l.drop k)) (l.drop (k + cnt notNl (l.drop k))) := by
  have h1 := at_hash h
  rw [scan_at_skip l k, scan_at_skip l (k + cnt notNl (l.drop k)), h1]
theorem blank_or' {c : BitVec 8} (h : isBlank c = true) : c = 10#8 ∨ c = 32#8 ∨ c = 9#8 ∨ c = 13#8 := by
  unfold isBlank at h
  simp only [Bool.or_eq_true, beq_iff_eq] at h
  rcases h with ((h | h) | h) | h <;> subst h <;> decide
theorem scan_blank_at {l : List (BitVec 8)} {k : Nat} {z : BitVec 8} (h : l[k]? = some z) (hz : isBlank z = true) : scan k (l.drop k) = scan (k + 1) (l.drop (k + 1)) := by
  rw [drop_at h, scan_skip k, skp_blank hz, List.drop_succ_cons, scan_skip (k + 1) (l.drop (k + 1))]
  congr 1
  omega
theorem own_new {w : World} {base : Nat} {e : TypeId} {size n : Nat} {v : Value} {xs : List Value} (h : w.ownsRow base e size v n xs) (o : Obj) (i : Nat) (u : Value) : ((w.alloc o).setCell ⟨w.heap.size, i, none⟩ u).ownsRow base e size v n xs := by
  obtain ⟨h1, h2⟩ := h.alloc o
  refine ⟨h1, ?_⟩
  rcases h2 with h2 | ⟨g, cap, cur, e1, e2, e3, e4⟩
  · exact .inl h2
  · rcases h.2 with ⟨h3, _⟩ | ⟨g', cap', cur', e1', _, e3', _⟩
    · rw [h3] at e1; cases e1
    · rw [e1'] at e1
      simp only [Value.slice.injEq, Option.some.injEq, Addr.mk.injEq, and_true, true_and] at e1
      obtain ⟨rfl, _⟩ := e1
      have hlt := (Array.getElem?_eq_some_iff.1 e3').1
      exact .inr ⟨g', cap, cur, by rw [e1']; simp_all, e2, (Below.heap_setCell _ _ u g' (by simp; omega)).trans e3, e4⟩

theorem sgn_kd : ∀ z : BitVec 8, isSgn z = true → isLet z = false ∧ isDig z = false ∧ kd z = 3 := by decide +kernel
theorem let_kd : ∀ z : BitVec 8, isLet z = true → kd z = 1 ∧ isDig z = false := by decide +kernel
theorem dig_kd : ∀ z : BitVec 8, isDig z = true → kd z = 2 ∧ isLet z = false := by decide +kernel
theorem none_kd : ∀ z : BitVec 8, isSgn z = false → isLet z = false → isDig z = false → kd z = 0 := by decide +kernel

/-- What the reference's Lex answers. -/
def RPost (l : List (BitVec 8)) (w : World) (e : Ending) (w' : World) : Prop :=
  ∃ G c, e = .returned (.tuple #[.slice G (lexT l).length c, .int .i64 (lexO l), .int .i64 (lexE l)]) ∧ w'.ownsRow w.heap.size 50 3 (.slice G (lexT l).length c) (lexT l).length (cellsU ((lexT l).map raw)) ∧ Below w.heap.size w w'
theorem RPost.none {l : List (BitVec 8)} {w w' : World} {o r : Nat} (hT : lexT l = []) (hO : lexO l = o) (hE : lexE l = r) (hb : Below w.heap.size w w') : RPost l w (.returned (.tuple #[.slice none 0 0, .int .i64 o, .int .i64 r])) w' := by
  subst hO hE
  refine ⟨Option.none, 0, by rw [hT]; rfl, ?_, hb⟩
  rw [hT]; exact ⟨rfl, .inl ⟨rfl, rfl⟩⟩

set_option maxRecDepth 100000 in
set_option maxHeartbeats 8000000 in
theorem rlex_any (l : List (BitVec 8)) (w : World) :
    Calls Try.prog 23 #[.string (bstr l)] w (RPost l w) := by
  obtain ⟨i0, hi, hz0, hz1, hz2⟩ := info_parts infoU
  have hzr := zero_rt
  have hbs := bstr_size l
  by_cases hlong : 65536 < l.length
  · have hT : lexT l = [] := by unfold lexT; rw [if_pos (.inl hlong)]
    have hO : lexO l = 0 := by unfold lexO; rw [if_pos hlong]
    have hE : lexE l = 3 := by unfold lexE; rw [if_pos hlong]
    have HP : Hid (RPost l w (.returned (.tuple #[.slice none 0 0, .int .i64 (0 : Nat), .int .i64 (3 : Nat)])) w) := RPost.none hT hO hE (Below.refl _ _)
    have hd : decide ((65536 : Int) < l.length) = true := by simp; omega
    generalize bstr l = S at hbs ⊢
    generalize RPost l w = PP at HP ⊢
    clear hT hO hE
    go_enter Try.func23, Try.ntmps23
    go_wp2_with fail
    exact HP.out
  have hd : decide ((65536 : Int) < l.length) = false := by simp; omega
  have hLn : (scan 0 l).length ≤ 65536 := Nat.le_trans (scan_len 0 l) (by omega)
  have hErr : Hid (∀ (pre : List Tk) (x : Tk) (M : List Tk) (w' : World), pre ++ x :: M = scan 0 l → (∀ y ∈ pre, bad y = false) → bad x = true → Below w.heap.size w w' → RPost l w (.returned (.tuple #[.slice none 0 0, .int .i64 x.o, .int .i64 (tokE x)])) w') := fun pre x M w' h1 h2 h3 hb => by
    have hf := find_first (L := scan 0 l) (pre := pre) (x := x) ⟨M, by rw [← h1]; simp⟩ h2 h3
    obtain ⟨hT, hO, hE, _⟩ := lexT_bad (l := l) (by omega) hf
    exact RPost.none hT hO hE hb
  have hOk : Hid (∀ (G : Option Addr) (c : Nat) (w' : World), (∀ y ∈ scan 0 l, bad y = false) → w'.ownsRow w.heap.size 50 3 (.slice G (scan 0 l).length c) (scan 0 l).length (cellsU ((scan 0 l).map raw)) → Below w.heap.size w w' → RPost l w (.returned (.tuple #[.slice G (scan 0 l).length c, .int .i64 0, .int .i64 0])) w') := fun G c w' h1 h2 h3 => by
    have hf : (scan 0 l).find? bad = Option.none := by
      rw [List.find?_eq_none]
      exact fun x hx => by rw [h1 x hx]; decide
    obtain ⟨hT, hO, hE⟩ := lexT_ok (l := l) (by omega) hf
    refine ⟨G, c, by rw [hT, hO, hE]; rfl, by rw [hT]; exact h2, h3⟩
  have HX : Hid (∀ (k : Nat) (z : BitVec 8), l[k]? = some z → ∀ w, (Instr.index 9 (.string (bstr l)) (.int .i64 k)).run Try.prog w = .ok (U8 z) w) := fun k z h w => index_bstr l k z h w
  generalize hPP : RPost l w = PP at hErr hOk ⊢
  clear hPP
  have hB0 := Below.refl w.heap.size w
  obtain ⟨g, hg⟩ : ∃ g, w.heap.size = g := ⟨_, rfl⟩
  rw [hg] at hErr hOk hB0
  have HG := Lib.hid hg
  clear hg
  go_enter Try.func23, Try.ntmps23
  go_wp2_with fail
  clear hd
  go_loopw [5, 6] (fun v i wr => ∃ (k : Nat) (pre : List Tk), k ≤ l.length ∧ i = .int .i64 k ∧ pre ++ scan k (l.drop k) = scan 0 l ∧ (∀ x ∈ pre, bad x = false) ∧ wr.ownsRow g 50 3 v pre.length (cellsU (pre.map raw)) ∧ Below g w wr)
    (fun _ i _ => l.length - (intOf i).toNat)
  case atStart => exact ⟨0, [], Nat.zero_le _, rfl, rfl, (fun _ h => by cases h), ⟨rfl, .inl ⟨rfl, rfl⟩⟩, hB0⟩
  case round =>
    clear hB0
    obtain ⟨k, pre, hk, rfl, hsc, hgd, hown, hB⟩ := hrel
    by_cases hlt : k < l.length
    · have hgk : l[k]? = some l[k] := List.getElem?_eq_getElem hlt
      obtain ⟨z, hz⟩ : ∃ z, l[k] = z := ⟨_, rfl⟩
      rw [hz] at hgk
      clear hz
      have hi' := fun W => HX.out k z hgk W
      cases hbl : isBlank z with
      | true =>
        rw [scan_blank_at hgk hbl] at hsc
        have HS := Lib.hid hsc
        have hb4 : z = 10#8 ∨ z = 32#8 ∨ z = 9#8 ∨ z = 13#8 := by
          rcases blank_or' hbl with h | h | h | h
          · exact .inl h
          · exact .inr (.inl h)
          · exact .inr (.inr (.inl h))
          · exact .inr (.inr (.inr h))
        rcases hb4 with rfl | rfl | rfl | rfl
        all_goals
          clear hsc hgk hbl
          go_wp2_with fail
          go_roundw
          case rel => exact ⟨k + 1, pre, by omega, by go_num, HS.out, hgd, hown, hB⟩
          case measure => simp [intOf]; omega
      | false =>
        by_cases h35 : z = 35#8
        · subst h35
          rw [scan_hash hgk] at hsc
          have HS := Lib.hid hsc
          have hfit := cnt_fit notNl (l := l) (j := k) (by omega)
          have hge := hash_ge hgk
          obtain ⟨k2, hk2⟩ : ∃ k2, k + cnt notNl (l.drop k) = k2 := ⟨_, rfl⟩
          have HK2 := Lib.hid hk2
          rw [hk2] at HS hfit
          have hgt : k < k2 := by omega
          clear hsc hgk hbl hge hk2
          go_wp2_with fail
          go_loopw [6] (fun i wx => ∃ j : Nat, k ≤ j ∧ j ≤ k2 ∧ i = .int .i64 j ∧ j + cnt notNl (l.drop j) = k2 ∧ wx = wr)
            (fun i _ => l.length - (intOf i).toNat)
          case atStart => exact ⟨k, Nat.le_refl _, by omega, rfl, HK2.out, rfl⟩
          case round =>
            obtain ⟨j, hj0, hj, rfl, hje, rfl⟩ := hrel
            by_cases hjl : j < l.length
            · have hgj : l[j]? = some l[j] := List.getElem?_eq_getElem hjl
              obtain ⟨y, hy⟩ : ∃ y, l[j] = y := ⟨_, rfl⟩
              rw [hy] at hgj
              have hiy := fun W => HX.out j y hgj W
              have hq : ((y.toNat : Int) != 10) = notNl y := by
                have := beq_bv y 10#8
                rw [show (((10#8 : BitVec 8)).toNat : Int) = 10 from rfl] at this
                rw [bne, this]; unfold notNl; rw [bne]; rfl
              cases hn : notNl y with
              | true =>
                have hje2 := Lib.hid ((cnt_at_yes hgj hn).symm.trans hje)
                have hlt2 : j < k2 := by have := hje2.out; omega
                rw [hn] at hq
                clear hgj hy hje hn hi' HX
                go_wp2_with fail
                go_roundw
                case rel => exact ⟨j + 1, by omega, by omega, by go_num, hje2.out, by first | rfl | trivial⟩
                case measure => simp [intOf]; omega
              | false =>
                have hjk : Hid (j = k2) := by unfold Hid; rw [cnt_at_no hgj hn] at hje; omega
                obtain rfl : y = 10#8 := by simpa [notNl] using hn
                clear hgj hy hje hn hi' HX hq
                go_wp2_with fail
                go_roundw
                case rel => exact ⟨j, pre, by omega, rfl, by rw [hjk.out]; exact HS.out, hgd, hown, hB⟩
                case measure => have := hjk.out; simp [intOf]; omega
            · have hjk : Hid (j = k2) := by unfold Hid; rw [cnt_end (by omega)] at hje; omega
              clear hje hi' HX
              go_wp2_with fail
              go_roundw
              case rel => exact ⟨j, pre, by omega, rfl, by rw [hjk.out]; exact HS.out, hgd, hown, hB⟩
              case measure => have := hjk.out; simp [intOf]; omega
        · have hq0 := fun (v : BitVec 8) (hv : z ≠ v) => (beq_bv z v).trans (decide_eq_false hv)
          have q32 := hq0 32#8 (by rintro rfl; cases hbl)
          have q9 := hq0 9#8 (by rintro rfl; cases hbl)
          have q10 := hq0 10#8 (by rintro rfl; cases hbl)
          have q13 := hq0 13#8 (by rintro rfl; cases hbl)
          have q35 := hq0 35#8 h35
          rw [show (((32#8 : BitVec 8)).toNat : Int) = 32 from rfl] at q32
          rw [show (((9#8 : BitVec 8)).toNat : Int) = 9 from rfl] at q9
          rw [show (((10#8 : BitVec 8)).toNat : Int) = 10 from rfl] at q10
          rw [show (((13#8 : BitVec 8)).toNat : Int) = 13 from rfl] at q13
          rw [show (((35#8 : BitVec 8)).toNat : Int) = 35 from rfl] at q35
          have hsk : skp false (l.drop k) = 0 := by rw [drop_at hgk]; exact skp_none hbl h35
          rw [scan_at hgk hsk] at hsc
          have hSg := fun W => rsign_any z W
          have hLt := fun W => rlet_any z W
          have hDg := fun W => rdig_any z W
          have hml := more_le z (l.drop (k + 1))
          rw [List.length_drop] at hml
          have hdz := drop_at hgk
          have hplen : pre.length + 1 ≤ 65536 := by
            have := congrArg List.length hsc
            simp at this; omega
          have hkm := kd_more z (l.drop (k + 1))
          have hmc := fun d hd => cnt_all (p := isIn) (l.drop (k + 1)) d hd
          obtain ⟨mo, hmo⟩ : ∃ mo, more z (l.drop (k + 1)) = mo := ⟨_, rfl⟩
          rw [hmo] at hsc hml hkm
          have hcs : isBlank z = false := hbl
          clear hq0 hsk hmo
          obtain ⟨x, hx⟩ : ∃ x : Tk, x = ⟨kd z, z :: (l.drop (k + 1)).take mo, k⟩ := ⟨_, rfl⟩
          rw [← hx] at hsc
          have hxk : x.k = kd z := by rw [hx]
          have hxs : x.s = z :: (l.drop (k + 1)).take mo := by rw [hx]
          have hxo : x.o = k := by rw [hx]
          have hex := bstr_extract l k (k + 1 + mo)
          rw [hdz, show k + 1 + mo - k = mo + 1 by omega, List.take_succ_cons, ← hxs] at hex
          have hNext : Hid (∀ (V : World) (v : Value), bad x = false → V.ownsRow g 50 3 v (pre.length + 1) (cellsU (pre.map raw) ++ [.int .i64 x.k, .string (bstr x.s), .int .i64 (x.o : Int)]) → Below g w V →
              (pre ++ [x]) ++ scan (k + 1 + mo) (l.drop (k + 1 + mo)) = scan 0 l ∧ (∀ y ∈ pre ++ [x], bad y = false) ∧ V.ownsRow g 50 3 v (pre ++ [x]).length (cellsU ((pre ++ [x]).map raw)) ∧ Below g w V) := fun V v hb hV hBV => by
            refine ⟨by rw [List.append_assoc]; exact hsc, fun y hy => ?_, ?_, hBV⟩
            · rcases List.mem_append.1 hy with hy | hy
              · exact hgd y hy
              · rw [List.mem_singleton.1 hy]; exact hb
            · rw [List.length_append, List.map_append]
              have := cellsU_snoc (pre.map raw) (raw x)
              rw [show (pre.map raw ++ [x].map raw) = pre.map raw ++ [raw x] from rfl, this]
              exact hV
          have hBad : Hid (∀ (V : World), bad x = true → Below g w V → PP (.returned (.tuple #[.slice Option.none 0 0, .int .i64 x.o, .int .i64 (tokE x)])) V) := fun V hb hBV => hErr.out pre x _ V hsc hgd hb hBV
          have hgl : g ≤ wr.heap.size := by have := hB.size; have := HG.out; omega
          clear hsc hgd hErr hOk hdz
          cases hsg : isSgn z with
          | true =>
            obtain ⟨a1, a2, a3⟩ := sgn_kd z hsg
            have hmo0 : mo = 0 := by
              rcases hkm with ⟨h, _⟩ | ⟨_, h⟩
              · omega
              · exact h
            subst hmo0
            rw [hsg] at hSg
            have hx3 : (x.k : Int) = 3 := by rw [hxk, a3]; rfl
            have hb0 : bad x = false := by unfold bad tokE; rw [hxk, a3]; rfl
            have hSz := bstr_size x.s
            rw [hxs, List.length_cons] at hSz
            rw [Nat.add_zero] at hex hNext
            obtain ⟨SX, hSX⟩ : ∃ SX, bstr x.s = SX := ⟨_, rfl⟩
            rw [hSX] at hex hNext
            rw [hx3, hxo] at hNext
            have hown1 := hown.alloc (.cells #[.int .i64 3, .string SX, .int .i64 k] 50)
            have hNews := World.news_of_block (heap_alloc_new wr (.cells #[.int .i64 3, .string SX, .int .i64 k] 50))
            have hzz : g ≤ (wr.alloc (.cells #[.int .i64 3, .string SX, .int .i64 k] 50)).heap.size := by simp; omega
            have hFin : Hid (∀ (v5 : Value) (w5 : World), w5.ownsRow g 50 3 v5 (pre.length + 1) (cellsU (pre.map raw) ++ [.int .i64 3, .string SX, .int .i64 k]) → (wr.alloc (.cells #[.int .i64 3, .string SX, .int .i64 k] 50)).grownBy w5 u5.ownBlock → _) := fun v5 w5 hn5 hg5 => hNext.out w5 v5 hb0 hn5 ((hB.alloc hgl _).grown hg5 hzz (fun j e => own_block_le hown j e))
            have e1 : ((k : Int) + 1).toNat = k + 1 := by omega
            have e2 : (k : Int) ≤ (k : Int) + 1 := by omega
            have e3 : (k : Int) + 1 ≤ l.length := by omega
            have HSG := Lib.hid hSg
            clear hSg hLt hDg hkm hmc hcs hx hxk hxs hxo hx3 hb0 hSz hSX hBad HX hgk hNext a1 a2 a3 hown hB
            go_wp2_with fail
            (with_reducible refine (HSG.out _).mono ?_); rintro e w1 ⟨rfl, rfl⟩
            go_wp2_with (at_builtin; go_loud (refine wpList_append_own _ rfl _ _ 30 rfl g 50 i0 _ 3 32 Try.underlying30 hi hz0 hz1 hz2 rfl (by decide) u5 pre.length _ rfl hown1 ⟨w1.heap.size, 0, none⟩ 1 1 [.int .i64 3, .string SX, .int .i64 k] rfl rfl hNews (by simp [Value.oneCell']) (by unfold maxLen; omega) (by omega) hzz ?_; intro v5 w5 hn5 hg5 _; have HF := Lib.hid (hFin.out v5 w5 hn5 hg5); clear hn5 hg5 hown1 hNews))
            go_roundw
            case rel => exact ⟨k + 1, pre ++ [x], by omega, by go_num, HF.out.1, HF.out.2.1, HF.out.2.2.1, HF.out.2.2.2⟩
            case measure => simp [intOf]; omega
          | false =>
            cases hlz : isLet z with
            | true =>
              obtain ⟨a3, hdz'⟩ := let_kd z hlz
              have hmo1 : mo = cnt isIn (l.drop (k + 1)) := by
                rcases hkm with ⟨_, h⟩ | ⟨h, _⟩
                · exact h
                · omega
              rw [hsg] at hSg
              rw [hlz] at hLt
              rw [hdz'] at hDg
              have hxk3 : x.k = 1 := by rw [hxk, a3]
              obtain ⟨te, hte⟩ : ∃ te, k + 1 + mo = te := ⟨_, rfl⟩
              have hte2 : Hid (k + 1 + cnt isIn (l.drop (k + 1)) = te) := by unfold Hid; rw [← hmo1]; exact hte
              have hgt : k + 1 ≤ te := by omega
              have htl : te ≤ l.length := by omega
              rw [hte] at hex hNext
              have hSz := bstr_size x.s
              rw [hxs, List.length_cons] at hSz
              have hNm : Hid (∀ W : World, _) := fun W => rname_any z ((l.drop (k + 1)).take mo) hlz (by rw [hmo1]; exact hmc) (by rw [List.length_take]; omega) W
              rw [← hxs] at hNm
              have hlx : ((l.drop (k + 1)).take mo).length + 1 = x.s.length := by rw [hxs]; rfl
              rw [hlx] at hNm
              have hcond : decide (x.s.length ≤ 24) = !bad x := by
                unfold bad tokE
                rw [hxk3, if_neg (by decide)]
                by_cases h : x.s.length ≤ 24
                · rw [decide_eq_true h, if_neg (by omega), if_neg (by omega)]; rfl
                · rw [decide_eq_false h, if_pos ⟨rfl, by omega⟩]; rfl
              rw [hcond] at hNm
              have htE : bad x = true → tokE x = 71 := fun h => by
                unfold bad tokE at h
                unfold tokE
                rw [hxk3, if_neg (by decide)] at h ⊢
                by_cases h24 : 24 < x.s.length
                · rw [if_pos ⟨rfl, h24⟩]
                · rw [if_neg (fun h2 => h24 h2.2), if_neg (by simp)] at h; cases h
              have hx3 : (x.k : Int) = 1 := by rw [hxk3]; rfl
              obtain ⟨SX, hSX⟩ : ∃ SX, bstr x.s = SX := ⟨_, rfl⟩
              rw [hSX] at hex hNext hNm
              rw [hx3, hxo] at hNext
              rw [hxo] at hBad
              have e0 : (k : Int) ≤ te := by omega
              have e3 : (te : Int) ≤ l.length := by omega
              have HSG := Lib.hid hSg
              have HLT := Lib.hid hLt
              have HDG := Lib.hid hDg
              clear hSg hLt hDg hkm hmc hcs hx hxk hxs hxo hx3 hxk3 hSz hSX hcond hgk a3 hmo1 hte hlx
              go_wp2_with fail
              (with_reducible refine (HSG.out _).mono ?_); rintro e w1 ⟨rfl, rfl⟩
              go_wp2_with fail
              (with_reducible refine (HLT.out _).mono ?_); rintro e w1 ⟨rfl, rfl⟩
              go_wp2_with fail
              go_loopw [8] (fun i wx => ∃ j : Nat, k + 1 ≤ j ∧ j ≤ te ∧ i = .int .i64 j ∧ j + cnt isIn (l.drop j) = te ∧ wx = w1)
                (fun i _ => l.length - (intOf i).toNat)
              case atStart => exact ⟨k + 1, Nat.le_refl _, hgt, by go_num, hte2.out, rfl⟩
              case round =>
                obtain ⟨j, hj0, hj, rfl, hje, rfl⟩ := hrel
                by_cases hjl : j < l.length
                · have hgj : l[j]? = some l[j] := List.getElem?_eq_getElem hjl
                  obtain ⟨y, hy⟩ : ∃ y, l[j] = y := ⟨_, rfl⟩
                  rw [hy] at hgj
                  have hiy := fun W => HX.out j y hgj W
                  have hIn := fun W => rinner_any y W
                  cases hn : isIn y with
                  | true =>
                    have hje2 := Lib.hid ((cnt_at_yes hgj hn).symm.trans hje)
                    have hlt2 : j < te := by have := hje2.out; omega
                    rw [hn] at hIn
                    have HIN := Lib.hid hIn
                    clear hgj hy hje hn hi' HX hIn hNext hBad hex
                    go_wp2_with fail
                    (with_reducible refine (HIN.out _).mono ?_); rintro e w2 ⟨rfl, rfl⟩
                    go_wp2_with fail
                    go_roundw
                    case rel => exact ⟨j + 1, by omega, by omega, by go_num, hje2.out, by first | rfl | trivial⟩
                    case measure => simp [intOf]; omega
                  | false =>
                    obtain rfl : j = te := by rw [cnt_at_no hgj hn] at hje; omega
                    rw [hn] at hIn
                    have HIN := Lib.hid hIn
                    clear hgj hy hje hn hIn hte2
                    go_wp2_with fail
                    (with_reducible refine (HIN.out _).mono ?_); rintro e w2 ⟨rfl, rfl⟩
                    clear hi' hiy HX HIN
                    go_wp2_with fail
                    (with_reducible refine (HLT.out _).mono ?_); rintro e w7 ⟨rfl, rfl⟩
                    go_wp2_with fail
                    cases hb : bad x with
                    | true =>
                      rw [hb] at hNm
                      have HP : Hid (∀ V, Below g w V → PP (.returned (.tuple #[.slice Option.none 0 0, .int .i64 k, .int .i64 (71 : Nat)])) V) := fun V hV => by
                        have := hBad.out V hb hV
                        rwa [htE hb] at this
                      have hB2 := hB.alloc hgl (.cells #[.int .i64 1, .string SX, .int .i64 k] 50)
                      clear hBad hNext htE hown hb
                      (with_reducible refine (hNm.out _).mono ?_); rintro e w8 ⟨rfl, rfl⟩
                      go_wp2_with fail
                      exact HP.out _ hB2
                    | false =>
                      rw [hb] at hNm
                      have hown1 := (hown.alloc (.cells #[.int .i64 1, .string SX, .int .i64 k] 50)).alloc (.cells #[.int .i64 1, .string SX, .int .i64 k] 50)
                      have hNews := World.news_of_block (heap_alloc_new (w2.alloc (.cells #[.int .i64 1, .string SX, .int .i64 k] 50)) (.cells #[.int .i64 1, .string SX, .int .i64 k] 50))
                      rw [World.size_alloc] at hNews
                      have hzz : g ≤ ((w2.alloc (.cells #[.int .i64 1, .string SX, .int .i64 k] 50)).alloc (.cells #[.int .i64 1, .string SX, .int .i64 k] 50)).heap.size := by simp; omega
                      have hFin : Hid (∀ (v5 : Value) (w5 : World), w5.ownsRow g 50 3 v5 (pre.length + 1) (cellsU (pre.map raw) ++ [.int .i64 1, .string SX, .int .i64 k]) → ((w2.alloc (.cells #[.int .i64 1, .string SX, .int .i64 k] 50)).alloc (.cells #[.int .i64 1, .string SX, .int .i64 k] 50)).grownBy w5 u5.ownBlock → _) := fun v5 w5 hn5 hg5 => hNext.out w5 v5 hb hn5 (((hB.alloc hgl _).alloc (by simp; omega) _).grown hg5 hzz (fun j e => own_block_le hown j e))
                      clear hBad hNext htE hown hb hB
                      (with_reducible refine (hNm.out _).mono ?_); rintro e w8 ⟨rfl, rfl⟩
                      go_wp2_with (at_builtin; go_loud (refine wpList_append_own _ rfl _ _ 30 rfl g 50 i0 _ 3 32 Try.underlying30 hi hz0 hz1 hz2 rfl (by decide) u5 pre.length _ rfl hown1 ⟨w2.heap.size + 1, 0, none⟩ 1 1 [.int .i64 1, .string SX, .int .i64 k] rfl rfl hNews (by simp [Value.oneCell']) (by unfold maxLen; omega) (by omega) hzz ?_; intro v5 w5 hn5 hg5 _; have HF := Lib.hid (hFin.out v5 w5 hn5 hg5); clear hn5 hg5 hown1 hNews))
                      go_roundw
                      case rel => exact ⟨j, pre ++ [x], by omega, rfl, HF.out.1, HF.out.2.1, HF.out.2.2.1, HF.out.2.2.2⟩
                      case measure => simp [intOf]; omega
                · obtain rfl : j = te := by rw [cnt_end (by omega)] at hje; omega
                  clear hje hi' HX hte2
                  go_wp2_with fail
                  (with_reducible refine (HLT.out _).mono ?_); rintro e w7 ⟨rfl, rfl⟩
                  go_wp2_with fail
                  cases hb : bad x with
                  | true =>
                    rw [hb] at hNm
                    have HP : Hid (∀ V, Below g w V → PP (.returned (.tuple #[.slice Option.none 0 0, .int .i64 k, .int .i64 (71 : Nat)])) V) := fun V hV => by
                      have := hBad.out V hb hV
                      rwa [htE hb] at this
                    have hB2 := hB.alloc hgl (.cells #[.int .i64 1, .string SX, .int .i64 k] 50)
                    clear hBad hNext htE hown hb
                    (with_reducible refine (hNm.out _).mono ?_); rintro e w8 ⟨rfl, rfl⟩
                    go_wp2_with fail
                    exact HP.out _ hB2
                  | false =>
                    rw [hb] at hNm
                    have hown1 := (hown.alloc (.cells #[.int .i64 1, .string SX, .int .i64 k] 50)).alloc (.cells #[.int .i64 1, .string SX, .int .i64 k] 50)
                    have hNews := World.news_of_block (heap_alloc_new (wr.alloc (.cells #[.int .i64 1, .string SX, .int .i64 k] 50)) (.cells #[.int .i64 1, .string SX, .int .i64 k] 50))
                    rw [World.size_alloc] at hNews
                    have hzz : g ≤ ((wr.alloc (.cells #[.int .i64 1, .string SX, .int .i64 k] 50)).alloc (.cells #[.int .i64 1, .string SX, .int .i64 k] 50)).heap.size := by simp; omega
                    have hFin : Hid (∀ (v5 : Value) (w5 : World), w5.ownsRow g 50 3 v5 (pre.length + 1) (cellsU (pre.map raw) ++ [.int .i64 1, .string SX, .int .i64 k]) → ((wr.alloc (.cells #[.int .i64 1, .string SX, .int .i64 k] 50)).alloc (.cells #[.int .i64 1, .string SX, .int .i64 k] 50)).grownBy w5 u5.ownBlock → _) := fun v5 w5 hn5 hg5 => hNext.out w5 v5 hb hn5 (((hB.alloc hgl _).alloc (by simp; omega) _).grown hg5 hzz (fun j e => own_block_le hown j e))
                    clear hBad hNext htE hown hb hB
                    (with_reducible refine (hNm.out _).mono ?_); rintro e w8 ⟨rfl, rfl⟩
                    go_wp2_with (at_builtin; go_loud (refine wpList_append_own _ rfl _ _ 30 rfl g 50 i0 _ 3 32 Try.underlying30 hi hz0 hz1 hz2 rfl (by decide) u5 pre.length _ rfl hown1 ⟨wr.heap.size + 1, 0, none⟩ 1 1 [.int .i64 1, .string SX, .int .i64 k] rfl rfl hNews (by simp [Value.oneCell']) (by unfold maxLen; omega) (by omega) hzz ?_; intro v5 w5 hn5 hg5 _; have HF := Lib.hid (hFin.out v5 w5 hn5 hg5); clear hn5 hg5 hown1 hNews))
                    go_roundw
                    case rel => exact ⟨j, pre ++ [x], by omega, rfl, HF.out.1, HF.out.2.1, HF.out.2.2.1, HF.out.2.2.2⟩
                    case measure => simp [intOf]; omega
            | false =>
              cases hdz' : isDig z with
              | true =>
                obtain ⟨a3, _⟩ := dig_kd z hdz'
                have hmo1 : mo = cnt isIn (l.drop (k + 1)) := by
                  rcases hkm with ⟨_, h⟩ | ⟨h, _⟩
                  · exact h
                  · omega
                rw [hsg] at hSg
                rw [hlz] at hLt
                rw [hdz'] at hDg
                have hxk3 : x.k = 2 := by rw [hxk, a3]
                obtain ⟨te, hte⟩ : ∃ te, k + 1 + mo = te := ⟨_, rfl⟩
                have hte2 : Hid (k + 1 + cnt isIn (l.drop (k + 1)) = te) := by unfold Hid; rw [← hmo1]; exact hte
                have hgt : k + 1 ≤ te := by omega
                have htl : te ≤ l.length := by omega
                rw [hte] at hex hNext
                have hSz := bstr_size x.s
                rw [hxs, List.length_cons] at hSz
                have hNm : Hid (∀ W : World, _) := fun W => rnumber_any z ((l.drop (k + 1)).take mo) (by rw [List.length_take]; omega) W
                rw [← hxs] at hNm
                have hcond : numOk x.s = !bad x := by
                  unfold bad tokE
                  rw [hxk3, if_neg (by decide), if_neg (fun h => absurd h.1 (by decide))]
                  cases h : numOk x.s
                  · rw [if_pos ⟨rfl, rfl⟩]; rfl
                  · rw [if_neg (fun h2 => absurd h2.2 (by decide))]; rfl
                rw [hcond] at hNm
                have htE : bad x = true → tokE x = 72 := fun h => by
                  unfold bad tokE at h
                  unfold tokE
                  rw [hxk3, if_neg (by decide), if_neg (fun h => absurd h.1 (by decide))] at h ⊢
                  cases h2 : numOk x.s
                  · rw [if_pos ⟨rfl, rfl⟩]
                  · rw [h2, if_neg (fun h3 => absurd h3.2 (by decide))] at h; cases h
                have hx3 : (x.k : Int) = 2 := by rw [hxk3]; rfl
                obtain ⟨SX, hSX⟩ : ∃ SX, bstr x.s = SX := ⟨_, rfl⟩
                rw [hSX] at hex hNext hNm
                rw [hx3, hxo] at hNext
                rw [hxo] at hBad
                have e0 : (k : Int) ≤ te := by omega
                have e3 : (te : Int) ≤ l.length := by omega
                have HSG := Lib.hid hSg
                have HLT := Lib.hid hLt
                have HDG := Lib.hid hDg
                clear hSg hLt hDg hkm hmc hcs hx hxk hxs hxo hx3 hxk3 hSz hSX hcond hgk a3 hmo1 hte
                go_wp2_with fail
                (with_reducible refine (HSG.out _).mono ?_); rintro e w1 ⟨rfl, rfl⟩
                go_wp2_with fail
                (with_reducible refine (HLT.out _).mono ?_); rintro e w1 ⟨rfl, rfl⟩
                go_wp2_with fail
                (with_reducible refine (HDG.out _).mono ?_); rintro e w1 ⟨rfl, rfl⟩
                go_wp2_with fail
                go_loopw [8] (fun i wx => ∃ j : Nat, k + 1 ≤ j ∧ j ≤ te ∧ i = .int .i64 j ∧ j + cnt isIn (l.drop j) = te ∧ wx = w1)
                  (fun i _ => l.length - (intOf i).toNat)
                case atStart => exact ⟨k + 1, Nat.le_refl _, hgt, by go_num, hte2.out, rfl⟩
                case round =>
                  obtain ⟨j, hj0, hj, rfl, hje, rfl⟩ := hrel
                  by_cases hjl : j < l.length
                  · have hgj : l[j]? = some l[j] := List.getElem?_eq_getElem hjl
                    obtain ⟨y, hy⟩ : ∃ y, l[j] = y := ⟨_, rfl⟩
                    rw [hy] at hgj
                    have hiy := fun W => HX.out j y hgj W
                    have hIn := fun W => rinner_any y W
                    cases hn : isIn y with
                    | true =>
                      have hje2 := Lib.hid ((cnt_at_yes hgj hn).symm.trans hje)
                      have hlt2 : j < te := by have := hje2.out; omega
                      rw [hn] at hIn
                      have HIN := Lib.hid hIn
                      clear hgj hy hje hn hi' HX hIn hNext hBad hex
                      go_wp2_with fail
                      (with_reducible refine (HIN.out _).mono ?_); rintro e w2 ⟨rfl, rfl⟩
                      go_wp2_with fail
                      go_roundw
                      case rel => exact ⟨j + 1, by omega, by omega, by go_num, hje2.out, by first | rfl | trivial⟩
                      case measure => simp [intOf]; omega
                    | false =>
                      obtain rfl : j = te := by rw [cnt_at_no hgj hn] at hje; omega
                      rw [hn] at hIn
                      have HIN := Lib.hid hIn
                      clear hgj hy hje hn hIn hte2
                      go_wp2_with fail
                      (with_reducible refine (HIN.out _).mono ?_); rintro e w2 ⟨rfl, rfl⟩
                      clear hi' hiy HX HIN
                      go_wp2_with fail
                      (with_reducible refine (HLT.out _).mono ?_); rintro e w7 ⟨rfl, rfl⟩
                      go_wp2_with fail
                      cases hb : bad x with
                      | true =>
                        rw [hb] at hNm
                        have HP : Hid (∀ V, Below g w V → PP (.returned (.tuple #[.slice Option.none 0 0, .int .i64 k, .int .i64 (72 : Nat)])) V) := fun V hV => by
                          have := hBad.out V hb hV
                          rwa [htE hb] at this
                        have hB2 := hB.alloc hgl (.cells #[.int .i64 2, .string SX, .int .i64 k] 50)
                        clear hBad hNext htE hown hb
                        (with_reducible refine (hNm.out _).mono ?_); rintro e w8 ⟨⟨nv, rfl⟩, rfl⟩
                        go_wp2_with fail
                        exact HP.out _ hB2
                      | false =>
                        rw [hb] at hNm
                        have hown1 := (hown.alloc (.cells #[.int .i64 2, .string SX, .int .i64 k] 50)).alloc (.cells #[.int .i64 2, .string SX, .int .i64 k] 50)
                        have hNews := World.news_of_block (heap_alloc_new (w2.alloc (.cells #[.int .i64 2, .string SX, .int .i64 k] 50)) (.cells #[.int .i64 2, .string SX, .int .i64 k] 50))
                        rw [World.size_alloc] at hNews
                        have hzz : g ≤ ((w2.alloc (.cells #[.int .i64 2, .string SX, .int .i64 k] 50)).alloc (.cells #[.int .i64 2, .string SX, .int .i64 k] 50)).heap.size := by simp; omega
                        have hFin : Hid (∀ (v5 : Value) (w5 : World), w5.ownsRow g 50 3 v5 (pre.length + 1) (cellsU (pre.map raw) ++ [.int .i64 2, .string SX, .int .i64 k]) → ((w2.alloc (.cells #[.int .i64 2, .string SX, .int .i64 k] 50)).alloc (.cells #[.int .i64 2, .string SX, .int .i64 k] 50)).grownBy w5 u5.ownBlock → _) := fun v5 w5 hn5 hg5 => hNext.out w5 v5 hb hn5 (((hB.alloc hgl _).alloc (by simp; omega) _).grown hg5 hzz (fun j e => own_block_le hown j e))
                        clear hBad hNext htE hown hb hB
                        (with_reducible refine (hNm.out _).mono ?_); rintro e w8 ⟨⟨nv, rfl⟩, rfl⟩
                        go_wp2_with (at_builtin; go_loud (refine wpList_append_own _ rfl _ _ 30 rfl g 50 i0 _ 3 32 Try.underlying30 hi hz0 hz1 hz2 rfl (by decide) u5 pre.length _ rfl hown1 ⟨w2.heap.size + 1, 0, none⟩ 1 1 [.int .i64 2, .string SX, .int .i64 k] rfl rfl hNews (by simp [Value.oneCell']) (by unfold maxLen; omega) (by omega) hzz ?_; intro v5 w5 hn5 hg5 _; have HF := Lib.hid (hFin.out v5 w5 hn5 hg5); clear hn5 hg5 hown1 hNews))
                        go_roundw
                        case rel => exact ⟨j, pre ++ [x], by omega, rfl, HF.out.1, HF.out.2.1, HF.out.2.2.1, HF.out.2.2.2⟩
                        case measure => simp [intOf]; omega
                  · obtain rfl : j = te := by rw [cnt_end (by omega)] at hje; omega
                    clear hje hi' HX hte2
                    go_wp2_with fail
                    (with_reducible refine (HLT.out _).mono ?_); rintro e w7 ⟨rfl, rfl⟩
                    go_wp2_with fail
                    cases hb : bad x with
                    | true =>
                      rw [hb] at hNm
                      have HP : Hid (∀ V, Below g w V → PP (.returned (.tuple #[.slice Option.none 0 0, .int .i64 k, .int .i64 (72 : Nat)])) V) := fun V hV => by
                        have := hBad.out V hb hV
                        rwa [htE hb] at this
                      have hB2 := hB.alloc hgl (.cells #[.int .i64 2, .string SX, .int .i64 k] 50)
                      clear hBad hNext htE hown hb
                      (with_reducible refine (hNm.out _).mono ?_); rintro e w8 ⟨⟨nv, rfl⟩, rfl⟩
                      go_wp2_with fail
                      exact HP.out _ hB2
                    | false =>
                      rw [hb] at hNm
                      have hown1 := (hown.alloc (.cells #[.int .i64 2, .string SX, .int .i64 k] 50)).alloc (.cells #[.int .i64 2, .string SX, .int .i64 k] 50)
                      have hNews := World.news_of_block (heap_alloc_new (wr.alloc (.cells #[.int .i64 2, .string SX, .int .i64 k] 50)) (.cells #[.int .i64 2, .string SX, .int .i64 k] 50))
                      rw [World.size_alloc] at hNews
                      have hzz : g ≤ ((wr.alloc (.cells #[.int .i64 2, .string SX, .int .i64 k] 50)).alloc (.cells #[.int .i64 2, .string SX, .int .i64 k] 50)).heap.size := by simp; omega
                      have hFin : Hid (∀ (v5 : Value) (w5 : World), w5.ownsRow g 50 3 v5 (pre.length + 1) (cellsU (pre.map raw) ++ [.int .i64 2, .string SX, .int .i64 k]) → ((wr.alloc (.cells #[.int .i64 2, .string SX, .int .i64 k] 50)).alloc (.cells #[.int .i64 2, .string SX, .int .i64 k] 50)).grownBy w5 u5.ownBlock → _) := fun v5 w5 hn5 hg5 => hNext.out w5 v5 hb hn5 (((hB.alloc hgl _).alloc (by simp; omega) _).grown hg5 hzz (fun j e => own_block_le hown j e))
                      clear hBad hNext htE hown hb hB
                      (with_reducible refine (hNm.out _).mono ?_); rintro e w8 ⟨⟨nv, rfl⟩, rfl⟩
                      go_wp2_with (at_builtin; go_loud (refine wpList_append_own _ rfl _ _ 30 rfl g 50 i0 _ 3 32 Try.underlying30 hi hz0 hz1 hz2 rfl (by decide) u5 pre.length _ rfl hown1 ⟨wr.heap.size + 1, 0, none⟩ 1 1 [.int .i64 2, .string SX, .int .i64 k] rfl rfl hNews (by simp [Value.oneCell']) (by unfold maxLen; omega) (by omega) hzz ?_; intro v5 w5 hn5 hg5 _; have HF := Lib.hid (hFin.out v5 w5 hn5 hg5); clear hn5 hg5 hown1 hNews))
                      go_roundw
                      case rel => exact ⟨j, pre ++ [x], by omega, rfl, HF.out.1, HF.out.2.1, HF.out.2.2.1, HF.out.2.2.2⟩
                      case measure => simp [intOf]; omega
              | false =>
                have a3 := none_kd z hsg hlz hdz'
                rw [hsg] at hSg
                rw [hlz] at hLt
                rw [hdz'] at hDg
                have hb1 : bad x = true := by unfold bad tokE; rw [hxk, a3]; rfl
                have ht70 : tokE x = 70 := by unfold tokE; rw [hxk, a3]; rfl
                have HP : Hid (∀ V, Below g w V → _) := fun V hV => hBad.out V hb1 hV
                rw [ht70, hxo] at HP
                have HSG := Lib.hid hSg
                have HLT := Lib.hid hLt
                have HDG := Lib.hid hDg
                clear hSg hLt hDg hkm hmc hcs hx hxk hxs hxo hb1 ht70 hBad HX hgk hNext a3 hown hex
                go_wp2_with fail
                (with_reducible refine (HSG.out _).mono ?_); rintro e w1 ⟨rfl, rfl⟩
                go_wp2_with fail
                (with_reducible refine (HLT.out _).mono ?_); rintro e w1 ⟨rfl, rfl⟩
                go_wp2_with fail
                (with_reducible refine (HDG.out _).mono ?_); rintro e w1 ⟨rfl, rfl⟩
                go_wp2_with fail
                exact HP.out _ hB
    · obtain rfl : k = l.length := by omega
      rw [scan_over (Nat.le_refl _), List.append_nil] at hsc
      subst hsc
      obtain ⟨G, c, rfl⟩ := own_slice hown
      have HP := Lib.hid (hOk.out G c _ hgd hown hB)
      clear hown hgd hErr hOk
      go_wp2_with fail
      exact HP.out
end Go.Proofs.Ytbpncbomcdpogaa
