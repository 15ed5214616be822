/- Merged texts: RNorm, RIns, CPrep, CRound. -/
import Derived.Test.YtbncfknjgldcbaaGreatM7
import Derived.IntWalk
import Derived.Test.YtbncfknjgldcbaaGreatM8
import Derived.Test.YtbncfknjgldcbaaGreatM4
/- The reference's Norm. -/
namespace Go.Proofs.YtbncfknjgldcbaaGreat.Ref
open Go.RowKit Go.Joins Go.Shelf Go.Sort Num

theorem drop_cons {α : Type} {l : List α} {j : Nat} {y : α} (h : l[j]? = some y) : l.drop j = y :: l.drop (j + 1) := by
  obtain ⟨hl, e⟩ := List.getElem?_eq_some_iff.1 h
  rw [← e, List.drop_eq_getElem_cons hl]
theorem take_all {L : List Buck} {n : Nat} {x : Buck} (h : L.Pairwise Buck.bef) (hn : n ≤ L.length) (hgo : ¬ ∃ j y, n = j + 1 ∧ L[j]? = some y ∧ x.b < y.b) : ∀ z ∈ L.take n, z.b ≤ x.b := by
  cases n with
  | zero => intro z hz; simp at hz
  | succ j =>
    have hy : L[j]? = some (L[j]'(by omega)) := List.getElem?_eq_getElem (by omega)
    exact take_le h hy (Rat.not_lt.1 fun k => hgo ⟨j, _, rfl, hy, k⟩)
theorem OutS.cells {W : World} {A : Option Addr} {cap : Nat} {L : List Buck} (h : OutS W (.slice A L.length cap) L) (hne : L ≠ []) : ∃ g, A = some ⟨g, 0, none⟩ ∧ g < W.heap.size ∧ Row W g 0 L := by
  rcases h with ⟨_, h2⟩ | ⟨g, c', h1, _, _, h4, h5⟩
  · exact absurd h2 hne
  · simp only [Value.slice.injEq] at h1
    exact ⟨g, h1.1, h4, h5⟩
theorem own_base4 {W : World} {base : Nat} {e : TypeId} {size g cap n : Nat} {xs : List Value} (h : W.ownsRow base e size (.slice (some ⟨g, 0, none⟩) n cap) n xs) : base ≤ g := by
  rcases h.2 with ⟨k, _⟩ | ⟨g', c', cur, k, hb, _⟩
  · simp at k
  · simp only [Value.slice.injEq, Option.some.injEq, Addr.mk.injEq] at k; omega
theorem cmpQ_pos {r s : Rat} : 0 < cmpQ r s ↔ s < r := by
  have h1 := @cmpQ_le r s
  constructor
  · intro h; exact Rat.not_le.1 fun k => absurd (h1.2 k) (by omega)
  · intro h; have : ¬ cmpQ r s ≤ 0 := fun k => absurd (h1.1 k) (Rat.not_le.2 h); omega

set_option maxRecDepth 100000 in
set_option maxHeartbeats 8000000 in
theorem norm_any (A : Option Addr) (cap : Nat) (c : List Buck) (hlen : c.length ≤ 1048576) (w : World) (hA : isC A cap c w) :
    Calls Tryz.prog 14 #[.slice A c.length cap] w fun e w' => ∃ v, e = .returned v ∧ OutS w' v (normL c) ∧ Below w.heap.size w w' := by
  obtain ⟨i0, hi, hz0, hz1, hz2⟩ := info_parts infoB
  have HDm : Hid (∀ (k : Nat) (x : Buck), c[k]? = some x → ∀ W : World, Below w.heap.size w W → _) := fun k x hx W hb => dom_any A cap c k x hx hlen W (cl_isC A cap c w W hA hb)
  have HC : Hid (∀ (x y : Buck) (W : World), _) := fun x y W => cmp_r x.hb y.hb W
  have hA' := Lib.hid hA
  have hIn : c ≠ [] → ∃ b off, A = some ⟨b, off, none⟩ ∧ b < w.heap.size ∧ Row w b off c := fun h => hA.cells h
  have HIn := Lib.hid hIn
  clear hA hIn
  go_enter Tryz.func14, Tryz.ntmps14
  go_wp2_with fail
  go_loopw [3, 4] (fun v s wr => ∃ (k : Nat) (L : List Buck), k ≤ c.length ∧ s = .int .i64 ↑k ∧ NrmI c k L ∧ L.length ≤ k ∧ OutS wr v L ∧ Below w.heap.size w wr)
    (fun _ s _ => c.length - (intOf s).toNat)
  case atStart => exact ⟨0, [], Nat.zero_le _, rfl, .zero c, Nat.le_refl _, .nil _, Below.refl _ _⟩
  case round =>
    obtain ⟨k, L, hk, rfl, hN, hLk, hO, hB⟩ := hrel
    by_cases hlt : k < c.length
    · have hx : c[k]? = some c[k] := List.getElem?_eq_getElem hlt
      obtain ⟨x, hxe⟩ : ∃ x, c[k] = x := ⟨_, rfl⟩
      rw [hxe] at hx
      obtain ⟨b, off, rfl, hb, hr⟩ := HIn.out (by intro h; subst h; simp at hlt)
      obtain ⟨Ao, co, rfl⟩ := hO.form
      have hD := HDm.out k x hx wr hB
      have Hx := Lib.hid hx
      have hN := Lib.hid hN
      have hO := Lib.hid hO
      clear hx hxe HDm
      go_wp2_with fail
      refine hD.mono ?_; rintro e w1 ⟨⟨v, rfl, hv⟩, hb1⟩
      have hB1 := hB.trans (hb1.mono hB.size)
      have hO1 := Lib.hid (hO.out.keep hb1)
      have Hv := Lib.hid hv
      clear hD hb1 hO hB hv
      cases v
      · have hnd : Hid (¬ Dom c k) := fun h => by have := Hv.out.2 h; cases this
        clear Hv
        go_wp2_with fail
        go_loopw [5] (fun s wx => ∃ n : Nat, n ≤ L.length ∧ s = .int .i64 ↑n ∧ Hid (∀ y ∈ L.drop n, x.b < y.b) ∧ OutS wx (.slice Ao L.length co) L ∧ Below w.heap.size w wx)
          (fun s _ => (intOf s).toNat)
        case atStart => exact ⟨L.length, Nat.le_refl _, rfl, Lib.hid (show ∀ y ∈ L.drop L.length, x.b < y.b from fun y hy => by rw [List.drop_length] at hy; cases hy), hO1.out, hB1⟩
        case round =>
          obtain ⟨n, hn, rfl, hdr, hO2, hB2⟩ := hrel
          clear hO1 hB1
          have hrow := hr.below hB2 hb
          have hbz : b < wr.heap.size := Nat.lt_of_lt_of_le hb hB2.size
          obtain ⟨x0, x1, x2, x3⟩ := hrow k x Hx.out
          have p0 := Gr.cell x0 hbz
          have p1 := Gr.cell x1 hbz
          haveI : Nonempty (Wd (Gr wr)) := ⟨⟨wr, Below.refl _ _⟩⟩
          have hafter : ∀ s0 : Wd (Gr wr), Below wr.heap.size wr s0.val := fun s0 => s0.ok
          have Haf := Lib.hid hafter
          have Hrow := Lib.hid hrow
          have HO2 := Lib.hid hO2
          clear hafter x0 x1 x2 x3 hrow
          by_cases hgo : ∃ j y, n = j + 1 ∧ L[j]? = some y ∧ x.b < y.b
          · obtain ⟨j, y, hj, hy, hxy⟩ := hgo
            have hn' := Lib.hid (show ∀ z ∈ L.drop j, x.b < z.b from fun z hz => by
              rw [drop_cons hy, List.mem_cons] at hz
              rcases hz with rfl | hz
              · exact hxy
              · exact hdr.out z (by rw [hj]; exact hz))
            obtain ⟨g, rfl, hg, hrowL⟩ := HO2.out.cells (by intro h; subst h; simp at hy)
            obtain ⟨y0, y1, y2, y3⟩ := hrowL j y hy
            simp only [Nat.zero_add] at y0 y1
            have q0 := Gr.cell y0 hg
            have q1 := Gr.cell y1 hg
            have hjl : j < L.length := (List.getElem?_eq_some_iff.1 hy).1
            have z1 : 0 < (n : Int) := by omega
            have i1 : IntKind.i64.wrap ((n : Int) - 1) = j := by rw [IntWalk.i64_in _ (by omega)]; omega
            have i3 : (n : Int) - 1 = j := by omega
            have hk1 := cmpQ_pos.2 hxy
            have HC1 := HC.out y x
            generalize cmpQ y.b x.b = k1 at HC1 hk1
            have HC1 := Lib.hid HC1
            clear hxy y0 y1 y2 y3 hrowL hy
            go_wp2_with fail
            refine wp_region_cls (Gr wr) (by kernel_rfl) (by kernel_rfl) (Gr.start wr) ?_
            repeat (go_big_quiet_step (first | (go_at_call 53; (with_reducible exact Calls.cls Gr.close (HC1.out _)))))
            refine wpQuiet_nil ?_
            intro _ hw'
            obtain ⟨s0, rfl⟩ := hw'
            have hb3 := Haf.out s0
            clear p0 p1 q0 q1
            generalize s0.val = v1 at hb3 ⊢
            go_wp2
            go_roundw
            case rel => exact ⟨j, by omega, by go_num, hn'.out, HO2.out.keep hb3, hB2.trans (hb3.mono hB2.size)⟩
            case measure => simp [intOf]; omega
          · have hle := Lib.hid (take_all (x := x) hN.out.o hn hgo)
            clear hgo
            by_cases h0 : 0 < n
            case' pos =>
              obtain ⟨j, hj⟩ : ∃ j, n = j + 1 := ⟨n - 1, by omega⟩
              obtain ⟨y, hy⟩ : ∃ y, L[j]? = some y := ⟨_, List.getElem?_eq_getElem (by omega)⟩
              have hyx : y.b ≤ x.b := hle.out y (by rw [List.mem_iff_getElem?]; exact ⟨j, by rw [List.getElem?_take, if_pos (by omega)]; exact hy⟩)
              obtain ⟨g, rfl, hg, hrowL⟩ := HO2.out.cells (by intro h; subst h; simp at hy)
              obtain ⟨y0, y1, y2, y3⟩ := hrowL j y hy
              simp only [Nat.zero_add] at y0 y1
              have q0 := Gr.cell y0 hg
              have q1 := Gr.cell y1 hg
              have hjl : j < L.length := (List.getElem?_eq_some_iff.1 hy).1
              have z1 : 0 < (n : Int) := by omega
              have i1 : IntKind.i64.wrap ((n : Int) - 1) = j := by rw [IntWalk.i64_in _ (by omega)]; omega
              have i3 : (n : Int) - 1 = j := by omega
              have Hj := Lib.hid hj
              clear hj
              have hk1 := cmpQ_le.2 hyx
              have HC1 := HC.out y x
              generalize cmpQ y.b x.b = k1 at HC1 hk1
              have hk2 : ¬ 0 < k1 := by omega
              have hk3 : decide (0 < k1) = false := by simp; omega
              have HC1 := Lib.hid HC1
              clear hyx y0 y1 y2 y3 hrowL hy
              go_wp2_with fail
              refine wp_region_cls (Gr wr) (by kernel_rfl) (by kernel_rfl) (Gr.start wr) ?_
              repeat (go_big_quiet_step (first | (go_at_call 53; (with_reducible exact Calls.cls Gr.close (HC1.out _)))))
              refine wpQuiet_nil ?_
              intro _ hw'
              obtain ⟨s0, rfl⟩ := hw'
              have hb3 := Haf.out s0
              clear p0 p1 q0 q1 HC1 hk1 hk2 hk3 i1 i3 z1 hjl Hj hg
            case' neg =>
              have z1 : decide (0 < (n : Int)) = false := by simp; omega
              go_wp2_with fail
              refine wp_region_cls (Gr wr) (by kernel_rfl) (by kernel_rfl) (Gr.start wr) ?_
              repeat (go_big_quiet_step (fail))
              refine wpQuiet_nil ?_
              intro _ hw'
              obtain ⟨s0, rfl⟩ := hw'
              have hb3 := Haf.out s0
              clear p0 p1
            all_goals
              generalize s0.val = v1 at hb3 ⊢
              have hO3 := HO2.out.keep hb3
              have hB3 := hB2.trans (hb3.mono hB2.size)
              have hbz1 : b < v1.heap.size := Nat.lt_of_lt_of_le hbz hb3.size
              obtain ⟨x0, x1, x2, x3⟩ := Hrow.out.below hb3 hbz k x Hx.out
              obtain ⟨v39, hs39, hp39⟩ := cutC_to hO3 n hn
              obtain ⟨v49, hs49, hp49⟩ := cutC_from hO3 n hn
              have Hp39 := Lib.hid hp39
              have Hp49 := Lib.hid hp49
              have HB3 := Lib.hid hB3
              have HO3 := Lib.hid hO3
              clear hp39 hp49 hb3 hB3 hO3 HO2 Hrow hB2 hbz Haf
              go_wp2_with fail
              have hl39 := Lib.hid (show (cellsOf (L.take n)).length = n * 4 by rw [cellsOf_length, List.length_take, Nat.min_eq_left hn])
              have hl49 := Lib.hid (show (cellsOf (L.drop n)).length = (L.length - n) * 4 by rw [cellsOf_length, List.length_drop])
              have hm39 := Lib.hid (show 0 + n ≤ maxLen by unfold maxLen; omega)
              have hm46 := Lib.hid (show n + 1 ≤ maxLen by unfold maxLen; omega)
              have hm50 := Lib.hid (show n + 1 + (L.length - n) ≤ maxLen by unfold maxLen; omega)
              have hy39 := Lib.hid (show (0 + n) * 32 ≤ 140737488355328 by omega)
              have hy46 := Lib.hid (show (n + 1) * 32 ≤ 140737488355328 by omega)
              have hy50 := Lib.hid (show (n + 1 + (L.length - n)) * 32 ≤ 140737488355328 by omega)
              have hone := Lib.hid (show ∀ u ∈ ([.int .i64 x.b.num, .int .i64 x.b.den, .int .i64 x.r.num, .int .i64 x.r.den] : List Value), u.oneCell' = true from one_cells x)
              go_region_law (first
                | (refine step_app rfl (.tmp 36) (.tmp 39) 23 rfl v1.heap.size 80 i0 _ 4 32 Tryz.underlying23 hi hz0 hz1 hz2 rfl (by decide) v1.heap.size 0 0 [] v39 n (cellsOf (L.take n)) ?_ ?_ (World.ownsRow.drew (own_empty (base := v1.heap.size) _ 80 4 v1.heap.size (by simp <;> fail) (Nat.le_refl _))) (Hp39.out _ (by (repeat' (first | (with_reducible exact Below.refl _ _) | (with_reducible refine below_drewN ?_ _) | (with_reducible refine Below.drew ?_) | (with_reducible refine Below.setCell ?_ ?_ _) | (with_reducible refine Below.alloc ?_ ?_ _) | go_size)))) hl39.out (one_all _) hm39.out hy39.out ?_ ?_; (simp [Act.eval] <;> fail); (simp [Act.eval] <;> fail); (first | omega | (simp <;> fail) | (simp; omega)); intro g1 cap1 w1 hown1 hgrow1; have hb1 : Below v1.heap.size v1 w1 := Below.grown (by (repeat' (first | (with_reducible exact Below.refl _ _) | (with_reducible refine below_drewN ?_ _) | (with_reducible refine Below.drew ?_) | (with_reducible refine Below.setCell ?_ ?_ _) | (with_reducible refine Below.alloc ?_ ?_ _) | go_size))) hgrow1 (by first | omega | (simp; done) | (simp; omega)) (fun j e => by cases e; omega); simp only [Nat.zero_add, List.nil_append] at hown1; have hzw1 : v1.heap.size < w1.heap.size := (by have := hgrow1.size; (try simp at this); omega); have x0 := (hb1.cell (p := ⟨b, off + k * 4, none⟩) hbz1).trans x0; have x1 := (hb1.cell (p := ⟨b, off + k * 4 + 1, none⟩) hbz1).trans x1; have x2 := (hb1.cell (p := ⟨b, off + k * 4 + 2, none⟩) hbz1).trans x2; have x3 := (hb1.cell (p := ⟨b, off + k * 4 + 3, none⟩) hbz1).trans x3; have hbw : b < w1.heap.size := by omega)
                | (refine step_app rfl (.tmp 36) (.tmp 39) 23 rfl v1.heap.size 80 i0 _ 4 32 Tryz.underlying23 hi hz0 hz1 hz2 rfl (by decide) v1.heap.size 0 0 [] v39 n (cellsOf (L.take n)) ?_ ?_ (World.ownsRow.drew ((own_empty (base := v1.heap.size) _ 80 4 v1.heap.size (by simp <;> fail) (Nat.le_refl _)).alloc _)) (Hp39.out _ (by (repeat' (first | (with_reducible exact Below.refl _ _) | (with_reducible refine below_drewN ?_ _) | (with_reducible refine Below.drew ?_) | (with_reducible refine Below.setCell ?_ ?_ _) | (with_reducible refine Below.alloc ?_ ?_ _) | go_size)))) hl39.out (one_all _) hm39.out hy39.out ?_ ?_; (simp [Act.eval] <;> fail); (simp [Act.eval] <;> fail); (first | omega | (simp <;> fail) | (simp; omega)); intro g1 cap1 w1 hown1 hgrow1; have hb1 : Below v1.heap.size v1 w1 := Below.grown (by (repeat' (first | (with_reducible exact Below.refl _ _) | (with_reducible refine below_drewN ?_ _) | (with_reducible refine Below.drew ?_) | (with_reducible refine Below.setCell ?_ ?_ _) | (with_reducible refine Below.alloc ?_ ?_ _) | go_size))) hgrow1 (by first | omega | (simp; done) | (simp; omega)) (fun j e => by cases e; omega); simp only [Nat.zero_add, List.nil_append] at hown1; have hzw1 : v1.heap.size < w1.heap.size := (by have := hgrow1.size; (try simp at this); omega); have hel : Part w1 (.slice (some ⟨v1.heap.size + 1, 0, none⟩) 1 1) 1 [.int .i64 x.b.num, .int .i64 x.b.den, .int .i64 x.r.num, .int .i64 x.r.den] := Part.grown (part_new _ #[.int .i64 x.b.num, .int .i64 x.b.den, .int .i64 x.r.num, .int .i64 x.r.den] 80 1 1 _ (by simp <;> fail)) hgrow1 (by simp <;> omega) (by omega))
                | (refine step_app rfl (.tmp 36) (.tmp 39) 23 rfl v1.heap.size 80 i0 _ 4 32 Tryz.underlying23 hi hz0 hz1 hz2 rfl (by decide) (v1.heap.size + 1) 0 0 [] v39 n (cellsOf (L.take n)) ?_ ?_ (World.ownsRow.drew (own_empty (base := v1.heap.size) _ 80 4 (v1.heap.size + 1) (by simp <;> fail) (by omega))) (Hp39.out _ (by (repeat' (first | (with_reducible exact Below.refl _ _) | (with_reducible refine below_drewN ?_ _) | (with_reducible refine Below.drew ?_) | (with_reducible refine Below.setCell ?_ ?_ _) | (with_reducible refine Below.alloc ?_ ?_ _) | go_size)))) hl39.out (one_all _) hm39.out hy39.out ?_ ?_; (simp [Act.eval] <;> fail); (simp [Act.eval] <;> fail); (first | omega | (simp <;> fail) | (simp; omega)); intro g1 cap1 w1 hown1 hgrow1; have hb1 : Below v1.heap.size v1 w1 := Below.grown (by (repeat' (first | (with_reducible exact Below.refl _ _) | (with_reducible refine below_drewN ?_ _) | (with_reducible refine Below.drew ?_) | (with_reducible refine Below.setCell ?_ ?_ _) | (with_reducible refine Below.alloc ?_ ?_ _) | go_size))) hgrow1 (by first | omega | (simp; done) | (simp; omega)) (fun j e => by cases e; omega); simp only [Nat.zero_add, List.nil_append] at hown1; have hzw1 : v1.heap.size < w1.heap.size := (by have := hgrow1.size; (try simp at this); omega); have hel : Part w1 (.slice (some ⟨v1.heap.size, 0, none⟩) 1 1) 1 [.int .i64 x.b.num, .int .i64 x.b.den, .int .i64 x.r.num, .int .i64 x.r.den] := Part.grown (part_old _ #[.int .i64 x.b.num, .int .i64 x.b.den, .int .i64 x.r.num, .int .i64 x.r.den] 80 _ 1 1 _ (by simp <;> fail)) hgrow1 (by simp <;> omega) (by omega))
                | (refine step_app rfl (.tmp 40) (.tmp 45) 23 rfl v1.heap.size 80 i0 _ 4 32 Tryz.underlying23 hi hz0 hz1 hz2 rfl (by decide) g1 n cap1 (cellsOf (L.take n)) (.slice (some ⟨w1.heap.size, 0, none⟩) 1 1) 1 [.int .i64 x.b.num, .int .i64 x.b.den, .int .i64 x.r.num, .int .i64 x.r.den] ?_ ?_ (hown1.alloc _) (part_block (cs := #[.int .i64 x.b.num, .int .i64 x.b.den, .int .i64 x.r.num, .int .i64 x.r.den]) (t := 80) (heap_alloc_new _ _)) rfl hone.out hm46.out hy46.out ?_ ?_; (simp [Act.eval] <;> fail); (simp [Act.eval] <;> fail); (first | omega | (simp <;> fail) | (simp; omega)); intro g2 cap2 w2 hown2 hgrow2; have hb2 : Below v1.heap.size v1 w2 := Below.grown (by first | exact hb1 | exact hb1.alloc (by omega) _) hgrow2 (by first | omega | (simp; done) | (simp; omega)) (fun j e => by cases e; exact own_base4 hown1); have hz2' : v1.heap.size < w2.heap.size := (by have := hgrow2.size; (try simp at this); omega))
                | (refine step_app rfl (.tmp 40) (.tmp 45) 23 rfl v1.heap.size 80 i0 _ 4 32 Tryz.underlying23 hi hz0 hz1 hz2 rfl (by decide) g1 n cap1 (cellsOf (L.take n)) (.slice (some ⟨(v1.heap.size + 1), 0, none⟩) 1 1) 1 [.int .i64 x.b.num, .int .i64 x.b.den, .int .i64 x.r.num, .int .i64 x.r.den] ?_ ?_ hown1 hel rfl hone.out hm46.out hy46.out ?_ ?_; (simp [Act.eval] <;> fail); (simp [Act.eval] <;> fail); (first | omega | (simp <;> fail) | (simp; omega)); intro g2 cap2 w2 hown2 hgrow2; have hb2 : Below v1.heap.size v1 w2 := Below.grown (by first | exact hb1 | exact hb1.alloc (by omega) _) hgrow2 (by first | omega | (simp; done) | (simp; omega)) (fun j e => by cases e; exact own_base4 hown1); have hz2' : v1.heap.size < w2.heap.size := (by have := hgrow2.size; (try simp at this); omega))
                | (refine step_app rfl (.tmp 40) (.tmp 45) 23 rfl v1.heap.size 80 i0 _ 4 32 Tryz.underlying23 hi hz0 hz1 hz2 rfl (by decide) g1 n cap1 (cellsOf (L.take n)) (.slice (some ⟨v1.heap.size, 0, none⟩) 1 1) 1 [.int .i64 x.b.num, .int .i64 x.b.den, .int .i64 x.r.num, .int .i64 x.r.den] ?_ ?_ hown1 hel rfl hone.out hm46.out hy46.out ?_ ?_; (simp [Act.eval] <;> fail); (simp [Act.eval] <;> fail); (first | omega | (simp <;> fail) | (simp; omega)); intro g2 cap2 w2 hown2 hgrow2; have hb2 : Below v1.heap.size v1 w2 := Below.grown (by first | exact hb1 | exact hb1.alloc (by omega) _) hgrow2 (by first | omega | (simp; done) | (simp; omega)) (fun j e => by cases e; exact own_base4 hown1); have hz2' : v1.heap.size < w2.heap.size := (by have := hgrow2.size; (try simp at this); omega))
                | (refine step_app rfl (.tmp 46) (.tmp 49) 23 rfl v1.heap.size 80 i0 _ 4 32 Tryz.underlying23 hi hz0 hz1 hz2 rfl (by decide) g2 (n + 1) cap2 (cellsOf (L.take n) ++ [.int .i64 x.b.num, .int .i64 x.b.den, .int .i64 x.r.num, .int .i64 x.r.den]) v49 (L.length - n) (cellsOf (L.drop n)) ?_ ?_ hown2 (Hp49.out _ hb2) hl49.out (one_all _) hm50.out hy50.out ?_ ?_; (simp [Act.eval] <;> fail); (simp [Act.eval] <;> fail); (first | omega | (simp <;> fail) | (simp; omega)); intro g3 cap3 w3 hown3 hgrow3; have hb3 : Below v1.heap.size v1 w3 := Below.grown hb2 hgrow3 (by omega) (fun j e => by cases e; exact own_base4 hown2)))
              all_goals
                have hMl : n + 1 + (L.length - n) = (L.take n ++ [x] ++ L.drop n).length := by simp; omega
                have hMc : (cellsOf (L.take n) ++ [.int .i64 x.b.num, .int .i64 x.b.den, .int .i64 x.r.num, .int .i64 x.r.den]) ++ cellsOf (L.drop n) = cellsOf (L.take n ++ [x] ++ L.drop n) := by rw [cellsOf_append, cellsOf_snoc]; rfl
                have hOut : Hid (OutS w3 (.slice (some ⟨g3, 0, none⟩) (n + (L.length - n + 1)) cap3) (L.take n ++ [x] ++ L.drop n)) := by
                  have := OutS.of_own' hown3 hMl hMc (by simp)
                  rw [show n + 1 + (L.length - n) = n + (L.length - n + 1) by omega] at this
                  exact this
                have hNm := Lib.hid (hN.out.put Hx.out hnd.out n hle.out hdr.out)
                have hBe := Lib.hid (HB3.out.trans (hb3.mono HB3.out.size))
                have hlen2 : (L.take n ++ [x] ++ L.drop n).length ≤ k + 1 := by rw [← hMl]; omega
                clear hown3 hgrow3 hb3
                go_wp2
                go_roundw
                case rel => exact ⟨k + 1, _, by omega, by go_num, hNm.out, hlen2, hOut.out, hBe.out⟩
                case measure => simp [intOf]; omega
      · have hnd : Hid (Dom c k) := Hv.out.1 rfl
        clear Hv
        go_wp2
        go_roundw
        case rel => exact ⟨k + 1, L, by omega, by go_num, hN.out.skip hnd.out, by omega, hO1.out, hB1⟩
        case measure => simp [intOf]; omega
    · obtain rfl : k = c.length := by omega
      have hres := hN.done
      subst hres
      obtain ⟨Ao, co, rfl⟩ := hO.form
      go_wp2
      go_ret
      exact ⟨_, rfl, hO, hB⟩
end Go.Proofs.YtbncfknjgldcbaaGreat.Ref
/- The reference's Insert. -/
namespace Go.Proofs.YtbncfknjgldcbaaGreat.Ref
open Go.RowKit Go.Joins Go.Shelf Go.Sort Num

theorem row2_cells {W : World} {b off : Nat} {c : List Pt} (h : Row2 W b off c) : ∀ j u, (ptsOf c)[j]? = some u → W.cell? ((⟨b, off, none⟩ : Addr).add j) = some u := by
  intro j u hu
  have hj : j < c.length * 2 := by
    have := (List.getElem?_eq_some_iff.1 hu).1
    rwa [ptsOf_length] at this
  have hq : j / 2 < c.length := by omega
  obtain ⟨h0, h1⟩ := h (j / 2) c[j / 2] (List.getElem?_eq_getElem hq)
  have hf := flat_pts c (j / 2) (j % 2) c[j / 2] (List.getElem?_eq_getElem hq) (Nat.mod_lt _ (by decide))
  rw [show j / 2 * 2 + j % 2 = j by omega, hu] at hf
  have ha : ((⟨b, off, none⟩ : Addr).add j) = ⟨b, off + j, none⟩ := by unfold Addr.add; split <;> simp_all
  rw [ha, hf]
  have hr : j % 2 < 2 := Nat.mod_lt _ (by decide)
  rcases show j % 2 = 0 ∨ j % 2 = 1 by omega with e | e
  · rw [e, show off + j = off + j / 2 * 2 by omega, h0]; rfl
  · rw [e, show off + j = off + j / 2 * 2 + 1 by omega, h1]; rfl
theorem onep_all (c : List Pt) : ∀ u ∈ ptsOf c, u.oneCell' = true := by
  intro u hu
  unfold ptsOf at hu
  obtain ⟨x, -, hx⟩ := List.mem_flatMap.1 hu
  exact one_pt x u hx
theorem ptsOf_append (a b : List Pt) : ptsOf (a ++ b) = ptsOf a ++ ptsOf b := by simp [ptsOf]
/-- A row that is nil where it is empty, or stands at a block's beginning. -/
def OutP (W : World) (v : Value) (L : List Pt) : Prop :=
  (v = .slice none 0 0 ∧ L = []) ∨ ∃ g cap, v = .slice (some ⟨g, 0, none⟩) L.length cap ∧ 0 < cap ∧ L.length ≤ cap ∧ g < W.heap.size ∧ Row2 W g 0 L
theorem OutP.nil (W : World) : OutP W (.slice none 0 0) [] := .inl ⟨rfl, rfl⟩
theorem OutP.keep {W W' : World} {v : Value} {L : List Pt} (h : OutP W v L) (hb : Below W.heap.size W W') : OutP W' v L := by
  rcases h with h | ⟨g, cap, h1, h2, h3, h4, h5⟩
  · exact .inl h
  · exact .inr ⟨g, cap, h1, h2, h3, Nat.lt_of_lt_of_le h4 hb.size, h5.below hb h4⟩
theorem OutP.form {W : World} {v : Value} {L : List Pt} (h : OutP W v L) : ∃ A cap, v = .slice A L.length cap := by
  rcases h with ⟨h1, h2⟩ | ⟨g, cap, h1, -⟩
  · subst h2; exact ⟨_, _, h1⟩
  · exact ⟨_, _, h1⟩
theorem OutP.of_own {base : Nat} {W : World} {g cap : Nat} {L : List Pt} (h : W.ownsRow base 25 2 (.slice (some ⟨g, 0, none⟩) L.length cap) L.length (ptsOf L)) (hL : L ≠ []) : OutP W (.slice (some ⟨g, 0, none⟩) L.length cap) L := by
  obtain ⟨-, hlt⟩ := own_lt h
  have hc : L.length ≤ cap := by
    rcases h.2 with ⟨k, _⟩ | ⟨g', c', cur, k, _, _, hnc, _⟩
    · simp at k
    · simp only [Value.slice.injEq] at k; omega
  have hp := List.length_pos_iff.2 hL
  exact .inr ⟨g, cap, rfl, by omega, hc, hlt, own_pts h⟩
theorem OutP.of_own' {base : Nat} {W : World} {g l cap : Nat} {M : List Pt} {xs : List Value} (h : W.ownsRow base 25 2 (.slice (some ⟨g, 0, none⟩) l cap) l xs) (hl : l = M.length) (hx : xs = ptsOf M) (hM : M ≠ []) : OutP W (.slice (some ⟨g, 0, none⟩) l cap) M := by
  subst hl hx
  exact .of_own h hM
theorem row2_take {W : World} {b off : Nat} {c : List Pt} (n : Nat) (h : Row2 W b off c) : Row2 W b off (c.take n) := fun j x hx => by
  refine h j x ?_
  rw [List.getElem?_take] at hx
  split at hx
  · exact hx
  · cases hx
theorem row2_drop {W : World} {b off : Nat} {c : List Pt} (n : Nat) (h : Row2 W b off c) : Row2 W b (off + n * 2) (c.drop n) := fun j x hx => by
  rw [List.getElem?_drop] at hx
  have := h (n + j) x hx
  rwa [show off + (n + j) * 2 = off + n * 2 + j * 2 by rw [Nat.add_mul]; omega] at this
/-- The first n elements. -/
theorem cutP_to {W : World} {v : Value} {L : List Pt} (h : OutP W v L) (n : Nat) (hn : n ≤ L.length) :
    ∃ v', (∀ w : World, (Instr.slice 44 v none (some (.int .i64 ↑n)) none).run Tryz.prog w = .ok v' w) ∧ ∀ W' : World, Below W.heap.size W W' → Part W' v' n (ptsOf (L.take n)) := by
  rcases h with ⟨rfl, rfl⟩ | ⟨g, cap, rfl, h1, h2, h3, h4⟩
  · obtain rfl : n = 0 := by simpa using hn
    refine ⟨.slice none 0 0, fun w => ?_, fun _ _ => .inl ⟨rfl, rfl, rfl⟩⟩
    rw [run_slice_h w 44 _ 0 0 (by kernel_rfl) .i64 ((0 : Nat) : Int) (by omega) (by omega)]
    have e2 : (sizeOf (Tryz.prog.elem 44)).run Tryz.prog w = .ok 2 w := by kernel_rfl
    rw [e2]
    rfl
  · refine ⟨.slice (some ⟨g, 0, none⟩) n cap, fun w => ?_, fun W' hW => .inr ⟨_, _, rfl, row2_cells ((row2_take n h4).below hW h3)⟩⟩
    rw [run_slice_h w 44 _ L.length cap (by kernel_rfl) .i64 ↑n (by omega) (by omega)]
    have e2 : (sizeOf (Tryz.prog.elem 44)).run Tryz.prog w = .ok 2 w := by kernel_rfl
    rw [Int.toNat_natCast, e2]
    simp only [Result.andThen, sliced]
    simp [show ¬ cap = 0 by omega, Addr.add]
/-- The elements from n on. -/
theorem cutP_from {W : World} {v : Value} {L : List Pt} (h : OutP W v L) (n : Nat) (hn : n ≤ L.length) :
    ∃ v', (∀ w : World, (Instr.slice 44 v (some (.int .i64 ↑n)) none none).run Tryz.prog w = .ok v' w) ∧ ∀ W' : World, Below W.heap.size W W' → Part W' v' (L.length - n) (ptsOf (L.drop n)) := by
  rcases h with ⟨rfl, rfl⟩ | ⟨g, cap, rfl, h1, h2, h3, h4⟩
  · obtain rfl : n = 0 := by simpa using hn
    refine ⟨.slice none 0 0, fun w => ?_, fun _ _ => .inl ⟨rfl, rfl, rfl⟩⟩
    rw [run_slice_l w 44 _ 0 0 (by kernel_rfl) .i64 ((0 : Nat) : Int) (by omega) (by omega)]
    have e2 : (sizeOf (Tryz.prog.elem 44)).run Tryz.prog w = .ok 2 w := by kernel_rfl
    rw [e2]
    rfl
  · have e2 : ∀ w, (sizeOf (Tryz.prog.elem 44)).run Tryz.prog w = .ok 2 w := fun w => by kernel_rfl
    by_cases hc : cap = n
    · have hln : L.length = n := by omega
      refine ⟨.slice (some ⟨g, 0, none⟩) (L.length - n) (cap - n), fun w => ?_, fun W' hW => .inr ⟨_, _, rfl, fun j u hu => ?_⟩⟩
      · rw [run_slice_l w 44 _ L.length cap (by kernel_rfl) .i64 ↑n (by omega) (by omega), Int.toNat_natCast, e2]
        simp only [Result.andThen, sliced]
        simp [hc]
      · rw [List.drop_eq_nil_of_le (by omega)] at hu
        cases hu
    · refine ⟨.slice (some ⟨g, n * 2, none⟩) (L.length - n) (cap - n), fun w => ?_, fun W' hW => .inr ⟨_, _, rfl, row2_cells ?_⟩⟩
      · rw [run_slice_l w 44 _ L.length cap (by kernel_rfl) .i64 ↑n (by omega) (by omega), Int.toNat_natCast, e2]
        simp only [Result.andThen, sliced]
        simp [hc, Addr.add]
        intro h; omega
      · have := row2_drop n (h4.below hW h3)
        rwa [Nat.zero_add] at this
theorem OutP.cells {W : World} {A : Option Addr} {cap : Nat} {L : List Pt} (h : OutP W (.slice A L.length cap) L) (hne : L ≠ []) : ∃ g, A = some ⟨g, 0, none⟩ ∧ g < W.heap.size ∧ Row2 W g 0 L := by
  rcases h with ⟨_, h2⟩ | ⟨g, c', h1, _, _, h4, h5⟩
  · exact absurd h2 hne
  · simp only [Value.slice.injEq] at h1
    exact ⟨g, h1.1, h4, h5⟩
theorem inc_take_all {L : List Pt} {n : Nat} {x : Pt} (h : Inc L) (hn : n ≤ L.length) (hgo : ¬ ∃ j y, n = j + 1 ∧ L[j]? = some y ∧ x.q < y.q) : ∀ z ∈ L.take n, z.q ≤ x.q := by
  cases n with
  | zero => intro z hz; simp at hz
  | succ j =>
    have hy : L[j]? = some (L[j]'(by omega)) := List.getElem?_eq_getElem (by omega)
    exact inc_take_le h hy (Rat.not_lt.1 fun k => hgo ⟨j, _, rfl, hy, k⟩)
/-- If the last of the first n is not x, all of them are below x. -/
theorem inc_take_lt {L : List Pt} {n : Nat} {x : Pt} (h : Inc L) (hle : ∀ z ∈ L.take n, z.q ≤ x.q) (hne : ∀ j, n = j + 1 → L[j]? ≠ some x) (hn : n ≤ L.length) : ∀ z ∈ L.take n, z.q < x.q := by
  intro z hz
  rcases Rat.le_iff_lt_or_eq.1 (hle z hz) with k | k
  · exact k
  · exfalso
    obtain ⟨i, hi⟩ := List.mem_iff_getElem?.1 hz
    have hzx : z = x := Pt.ext' k
    subst hzx
    rw [List.getElem?_take] at hi
    split at hi
    · rename_i hin
      cases n with
      | zero => omega
      | succ j =>
        by_cases e : i = j
        · subst e; exact hne i rfl hi
        · have hj : L[j]? = some (L[j]'(by omega)) := List.getElem?_eq_getElem (by omega)
          have hm : L[j]'(by omega) ∈ L.take (j + 1) := by
            rw [List.mem_iff_getElem?]
            exact ⟨j, by rw [List.getElem?_take, if_pos (Nat.lt_succ_self j)]; exact hj⟩
          have h1 := hle _ hm
          have hp := List.pairwise_iff_getElem.1 h i j (by omega) (by omega) (by omega)
          have h2 : L[i]'(by omega) = z := by
            have := List.getElem?_eq_getElem (l := L) (i := i) (by omega)
            rw [hi] at this
            exact (Option.some.inj this).symm
          rw [h2] at hp
          exact absurd h1 (Rat.not_le.2 hp)
    · cases hi

set_option maxRecDepth 100000 in
set_option maxHeartbeats 8000000 in
theorem insert_any (v : Value) (L : List Pt) (x : Pt) (hL : Inc L) (hlen : L.length ≤ 1048576) (w : World) (hO : OutP w v L) :
    Calls Tryz.prog 66 #[v, .agg #[.int .i64 x.q.num, .int .i64 x.q.den]] w fun e w' => ∃ v M, e = .returned v ∧ OutP w' v M ∧ insP L x M ∧ M.length ≤ L.length + 1 ∧ Below w.heap.size w w' := by
  obtain ⟨i0, hi, hz0, hz1, hz2⟩ := info_parts infoR
  have HC : Hid (∀ (x y : Pt) (W : World), _) := fun x y W => cmp_r x.h y.h W
  obtain ⟨Ao, co, rfl⟩ := hO.form
  have hB0 := (Below.refl w.heap.size w).alloc (Nat.le_refl _) (.cells #[.int .i64 x.q.num, .int .i64 x.q.den] 25)
  have bX : BoxN (w.alloc (.cells #[.int .i64 x.q.num, .int .i64 x.q.den] 25)) w.heap.size 25 #[.int .i64 x.q.num, .int .i64 x.q.den] := BoxN.new w _ _
  have hO1 := hO.keep hB0
  go_enter Tryz.func66, Tryz.ntmps66
  go_wp2_with fail
  generalize w.alloc (.cells #[.int .i64 x.q.num, .int .i64 x.q.den] 25) = w1 at hB0 bX hO1 ⊢
  have hbw := bX.lt
  obtain ⟨bx, hbx⟩ : ∃ bx, w.heap.size = bx := ⟨_, rfl⟩
  rw [hbx] at bX hbw ⊢
  have Hbx := Lib.hid hbx
  clear hO hbx
  go_loopw [5] (fun s wx => ∃ n : Nat, n ≤ L.length ∧ s = .int .i64 ↑n ∧ Hid (∀ y ∈ L.drop n, x.q < y.q) ∧ OutP wx (.slice Ao L.length co) L ∧ Below w1.heap.size w1 wx)
    (fun s _ => (intOf s).toNat)
  case atStart => exact ⟨L.length, Nat.le_refl _, rfl, Lib.hid (show ∀ y ∈ L.drop L.length, x.q < y.q from fun y hy => by rw [List.drop_length] at hy; cases hy), hO1, Below.refl _ _⟩
  case round =>
    obtain ⟨n, hn, rfl, hdr, hO2, hB2⟩ := hrel
    clear hO1
    have bX2 := bX.below hB2 hbw
    have x0 : wr.cell? ⟨bx, 0, none⟩ = some (.int .i64 x.q.num) := bX2.cell 0
    have x1 : wr.cell? ⟨bx, 1, none⟩ = some (.int .i64 x.q.den) := bX2.cell 1
    have hbz := bX2.lt
    have p0 := Gr.cell x0 hbz
    have p1 := Gr.cell x1 hbz
    haveI : Nonempty (Wd (Gr wr)) := ⟨⟨wr, Below.refl _ _⟩⟩
    have hafter : ∀ s0 : Wd (Gr wr), Below wr.heap.size wr s0.val := fun s0 => s0.ok
    have Haf := Lib.hid hafter
    have HO2 := Lib.hid hO2
    have HbX := Lib.hid bX2
    clear hafter x0 x1 bX2
    by_cases hgo : ∃ j y, n = j + 1 ∧ L[j]? = some y ∧ x.q < y.q
    · obtain ⟨j, y, hj, hy, hxy⟩ := hgo
      have hn' := Lib.hid (show ∀ z ∈ L.drop j, x.q < z.q from fun z hz => by
        rw [drop_cons hy, List.mem_cons] at hz
        rcases hz with rfl | hz
        · exact hxy
        · exact hdr.out z (by rw [hj]; exact hz))
      obtain ⟨g, rfl, hg, hrowL⟩ := HO2.out.cells (by intro h; subst h; simp at hy)
      obtain ⟨y0, y1⟩ := hrowL j y hy
      simp only [Nat.zero_add] at y0 y1
      have q0 := Gr.cell y0 hg
      have q1 := Gr.cell y1 hg
      have hjl : j < L.length := (List.getElem?_eq_some_iff.1 hy).1
      have z1 : 0 < (n : Int) := by omega
      have i1 : IntKind.i64.wrap ((n : Int) - 1) = j := by rw [IntWalk.i64_in _ (by omega)]; omega
      have i3 : (n : Int) - 1 = j := by omega
      have hk1 := cmpQ_pos.2 hxy
      have HC1 := HC.out y x
      generalize cmpQ y.q x.q = k1 at HC1 hk1
      have HC1 := Lib.hid HC1
      clear hxy y0 y1 hrowL hy
      go_wp2_with fail
      refine wp_region_cls (Gr wr) (by kernel_rfl) (by kernel_rfl) (Gr.start wr) ?_
      repeat (go_big_quiet_step (first | (go_at_call 53; (with_reducible exact Calls.cls Gr.close (HC1.out _)))))
      refine wpQuiet_nil ?_
      intro _ hw'
      obtain ⟨s0, rfl⟩ := hw'
      have hb3 := Haf.out s0
      clear p0 p1 q0 q1
      generalize s0.val = v1 at hb3 ⊢
      go_wp2
      go_roundw
      case rel => exact ⟨j, by omega, by go_num, hn'.out, HO2.out.keep hb3, hB2.trans (hb3.mono hB2.size)⟩
      case measure => simp [intOf]; omega
    · have hle := Lib.hid (inc_take_all (x := x) hL hn hgo)
      clear hgo
      by_cases h0 : 0 < n
      case' pos =>
        obtain ⟨j, hj⟩ : ∃ j, n = j + 1 := ⟨n - 1, by omega⟩
        obtain ⟨y, hy⟩ : ∃ y, L[j]? = some y := ⟨_, List.getElem?_eq_getElem (by omega)⟩
        have hyx : y.q ≤ x.q := hle.out y (by rw [List.mem_iff_getElem?]; exact ⟨j, by rw [List.getElem?_take, if_pos (by omega)]; exact hy⟩)
        obtain ⟨g, rfl, hg, hrowL⟩ := HO2.out.cells (by intro h; subst h; simp at hy)
        obtain ⟨y0, y1⟩ := hrowL j y hy
        simp only [Nat.zero_add] at y0 y1
        have q0 := Gr.cell y0 hg
        have q1 := Gr.cell y1 hg
        have hjl : j < L.length := (List.getElem?_eq_some_iff.1 hy).1
        have z1 : 0 < (n : Int) := by omega
        have i1 : IntKind.i64.wrap ((n : Int) - 1) = j := by rw [IntWalk.i64_in _ (by omega)]; omega
        have i3 : (n : Int) - 1 = j := by omega
        have hk1 := cmpQ_le.2 hyx
        have Hj := Lib.hid hj
        clear hj
        have HC1 := HC.out y x
        generalize cmpQ y.q x.q = k1 at HC1 hk1
        have hk2 : ¬ 0 < k1 := by omega
        have hk3 : decide (0 < k1) = false := by simp; omega
        have HC1 := Lib.hid HC1
        have Hy0 := Lib.hid y0
        have Hy1 := Lib.hid y1
        have Hy := Lib.hid hy
        clear hyx y0 y1 hrowL hy
        go_wp2_with fail
        refine wp_region_cls (Gr wr) (by kernel_rfl) (by kernel_rfl) (Gr.start wr) ?_
        repeat (go_big_quiet_step (first | (go_at_call 53; (with_reducible exact Calls.cls Gr.close (HC1.out _)))))
        refine wpQuiet_nil ?_
        intro _ hw'
        obtain ⟨s0, rfl⟩ := hw'
        have hb3 := Haf.out s0
        clear p0 p1 q0 q1 HC1 hk1 hk2 hk3
        generalize s0.val = v1 at hb3 ⊢
        have y0 := (hb3.cell (p := ⟨g, j * 2, none⟩) hg).trans Hy0.out
        have y1 := (hb3.cell (p := ⟨g, j * 2 + 1, none⟩) hg).trans Hy1.out
        have x0 := (hb3.cell (p := ⟨bx, 0, none⟩) hbz).trans (HbX.out.cell 0)
        have x1 := (hb3.cell (p := ⟨bx, 1, none⟩) hbz).trans (HbX.out.cell 1)
        have hgz : g < v1.heap.size := Nat.lt_of_lt_of_le hg hb3.size
        have hbz2 : bx < v1.heap.size := Nat.lt_of_lt_of_le hbz hb3.size
        have heq := fun W => eq_p (x := y) (y := x) W
        rcases Decidable.em (y = x) with hyx | hyx
        · rw [decide_eq_true hyx] at heq
          have hmem : Hid (x ∈ L) := by have := List.mem_of_getElem? Hy.out; rw [hyx] at this; exact this
          have hO3 := Lib.hid (HO2.out.keep hb3)
          have hB3 := Lib.hid (hB2.trans (hb3.mono hB2.size))
          clear hyx hb3
          go_wp2_with fail
          go_quiet (fail)
          rename_i nq
          have hB4 := below_drewN hB3.out nq
          have hO4 := hO3.out.keep (below_drewN (Below.refl _ v1) nq)
          clear x0 x1 y0 y1 heq
          generalize v1.drewN nq = wq at hB4 hO4 ⊢
          go_wp2
          go_ret
          exact ⟨_, L, rfl, hO4, insP_same hL hmem.out, by omega, by have := Hbx.out; subst this; exact hB0.trans (hB4.mono hB0.size)⟩
        rw [decide_eq_false hyx] at heq
        have hlt := Lib.hid (inc_take_lt hL hle.out (fun j' e => by
          have : j' = j := by have := Hj.out; omega
          subst this
          rw [Hy.out]
          exact fun e => hyx (Option.some.inj e)) hn)
        have hO3 := Lib.hid (HO2.out.keep hb3)
        have hB3 := Lib.hid (hB2.trans (hb3.mono hB2.size))
        have HbX3 := Lib.hid (HbX.out.below hb3 hbz)
        clear hyx hb3
        go_wp2_with fail
        go_quiet (fail)
        rename_i nq
        have hB4 := Lib.hid (below_drewN hB3.out nq)
        have hO4 := hO3.out.keep (below_drewN (Below.refl _ v1) nq)
        have bX4 := HbX3.out.below (below_drewN (Below.refl _ v1) nq) hbz2
        clear x0 x1 y0 y1 heq hgz hO3 hB3 HbX3 Hy0 Hy1 Hy Hj i1 i3 z1 hjl hg
        generalize v1.drewN nq = wq at hB4 hO4 bX4 ⊢
        clear hbz2
      case' neg =>
        have z1 : decide (0 < (n : Int)) = false := by simp; omega
        have z2 : ¬ 0 < (n : Int) := by omega
        have hlt := Lib.hid (show ∀ z ∈ L.take n, z.q < x.q from fun z hz => by
          obtain rfl : n = 0 := by omega
          simp at hz)
        go_wp2_with fail
        refine wp_region_cls (Gr wr) (by kernel_rfl) (by kernel_rfl) (Gr.start wr) ?_
        repeat (go_big_quiet_step (fail))
        refine wpQuiet_nil ?_
        intro _ hw'
        obtain ⟨s0, rfl⟩ := hw'
        have hb3 := Haf.out s0
        clear p0 p1
        generalize s0.val = v1 at hb3 ⊢
        have hO3 := Lib.hid (HO2.out.keep hb3)
        have hB3 := Lib.hid (hB2.trans (hb3.mono hB2.size))
        have HbX3 := Lib.hid (HbX.out.below hb3 hbz)
        have hbz2 : bx < v1.heap.size := Nat.lt_of_lt_of_le hbz hb3.size
        clear hb3
        go_wp2_with fail
        go_quiet (fail)
        rename_i nq
        have hB4 := Lib.hid (below_drewN hB3.out nq)
        have hO4 := hO3.out.keep (below_drewN (Below.refl _ v1) nq)
        have bX4 := HbX3.out.below (below_drewN (Below.refl _ v1) nq) hbz2
        clear hO3 hB3 HbX3 z1 z2
        generalize v1.drewN nq = wq at hB4 hO4 bX4 ⊢
        clear hbz2
      all_goals
        clear hbz HO2 HbX Haf hB2 hle
        have hbz1 := bX4.lt
        have x0 : wq.cell? ⟨bx, 0, none⟩ = some (.int .i64 x.q.num) := bX4.cell 0
        have x1 : wq.cell? ⟨bx, 1, none⟩ = some (.int .i64 x.q.den) := bX4.cell 1
        obtain ⟨v39, hs39, hp39⟩ := cutP_to hO4 n hn
        obtain ⟨v49, hs49, hp49⟩ := cutP_from hO4 n hn
        have Hp39 := Lib.hid hp39
        have Hp49 := Lib.hid hp49
        clear hp39 hp49 hO4 bX4
        go_wp2_with fail
        have hl39 := Lib.hid (show (ptsOf (L.take n)).length = n * 2 by rw [ptsOf_length, List.length_take, Nat.min_eq_left hn])
        have hl49 := Lib.hid (show (ptsOf (L.drop n)).length = (L.length - n) * 2 by rw [ptsOf_length, List.length_drop])
        have hm39 := Lib.hid (show 0 + n ≤ maxLen by unfold maxLen; omega)
        have hm46 := Lib.hid (show n + 1 ≤ maxLen by unfold maxLen; omega)
        have hm50 := Lib.hid (show n + 1 + (L.length - n) ≤ maxLen by unfold maxLen; omega)
        have hy39 := Lib.hid (show (0 + n) * 16 ≤ 140737488355328 by omega)
        have hy46 := Lib.hid (show (n + 1) * 16 ≤ 140737488355328 by omega)
        have hy50 := Lib.hid (show (n + 1 + (L.length - n)) * 16 ≤ 140737488355328 by omega)
        have hone := Lib.hid (show ∀ u ∈ ([.int .i64 x.q.num, .int .i64 x.q.den] : List Value), u.oneCell' = true from one_pt x)
        go_region_law (first
          | (refine step_app rfl (.tmp 34) (.tmp 37) 44 rfl wq.heap.size 25 i0 _ 2 16 Tryz.underlying44 hi hz0 hz1 hz2 rfl (by decide) wq.heap.size 0 0 [] v39 n (ptsOf (L.take n)) ?_ ?_ (World.ownsRow.drew (own_empty (base := wq.heap.size) _ 25 2 wq.heap.size (by simp <;> fail) (Nat.le_refl _))) (Hp39.out _ (by (repeat' (first | (with_reducible exact Below.refl _ _) | (with_reducible refine below_drewN ?_ _) | (with_reducible refine Below.drew ?_) | (with_reducible refine Below.setCell ?_ ?_ _) | (with_reducible refine Below.alloc ?_ ?_ _) | go_size)))) hl39.out (onep_all _) hm39.out hy39.out ?_ ?_; (simp [Act.eval] <;> fail); (simp [Act.eval] <;> fail); (first | omega | (simp <;> fail) | (simp; omega)); intro g1 cap1 w1 hown1 hgrow1; have hb1 : Below wq.heap.size wq w1 := Below.grown (by (repeat' (first | (with_reducible exact Below.refl _ _) | (with_reducible refine below_drewN ?_ _) | (with_reducible refine Below.drew ?_) | (with_reducible refine Below.setCell ?_ ?_ _) | (with_reducible refine Below.alloc ?_ ?_ _) | go_size))) hgrow1 (by first | omega | (simp; done) | (simp; omega)) (fun j e => by cases e; omega); simp only [Nat.zero_add, List.nil_append] at hown1; have hzw1 : wq.heap.size < w1.heap.size := (by have := hgrow1.size; (try simp at this); omega); have x0 := (hb1.cell (p := ⟨bx, 0, none⟩) hbz1).trans x0; have x1 := (hb1.cell (p := ⟨bx, 1, none⟩) hbz1).trans x1; have hbw : bx < w1.heap.size := by omega)
          | (refine step_app rfl (.tmp 34) (.tmp 37) 44 rfl wq.heap.size 25 i0 _ 2 16 Tryz.underlying44 hi hz0 hz1 hz2 rfl (by decide) wq.heap.size 0 0 [] v39 n (ptsOf (L.take n)) ?_ ?_ (World.ownsRow.drew ((own_empty (base := wq.heap.size) _ 25 2 wq.heap.size (by simp <;> fail) (Nat.le_refl _)).alloc _)) (Hp39.out _ (by (repeat' (first | (with_reducible exact Below.refl _ _) | (with_reducible refine below_drewN ?_ _) | (with_reducible refine Below.drew ?_) | (with_reducible refine Below.setCell ?_ ?_ _) | (with_reducible refine Below.alloc ?_ ?_ _) | go_size)))) hl39.out (onep_all _) hm39.out hy39.out ?_ ?_; (simp [Act.eval] <;> fail); (simp [Act.eval] <;> fail); (first | omega | (simp <;> fail) | (simp; omega)); intro g1 cap1 w1 hown1 hgrow1; have hb1 : Below wq.heap.size wq w1 := Below.grown (by (repeat' (first | (with_reducible exact Below.refl _ _) | (with_reducible refine below_drewN ?_ _) | (with_reducible refine Below.drew ?_) | (with_reducible refine Below.setCell ?_ ?_ _) | (with_reducible refine Below.alloc ?_ ?_ _) | go_size))) hgrow1 (by first | omega | (simp; done) | (simp; omega)) (fun j e => by cases e; omega); simp only [Nat.zero_add, List.nil_append] at hown1; have hzw1 : wq.heap.size < w1.heap.size := (by have := hgrow1.size; (try simp at this); omega); have hel : Part w1 (.slice (some ⟨wq.heap.size + 1, 0, none⟩) 1 1) 1 [.int .i64 x.q.num, .int .i64 x.q.den] := Part.grown (part_new _ #[.int .i64 x.q.num, .int .i64 x.q.den] 25 1 1 _ (by simp <;> fail)) hgrow1 (by simp <;> omega) (by omega))
          | (refine step_app rfl (.tmp 34) (.tmp 37) 44 rfl wq.heap.size 25 i0 _ 2 16 Tryz.underlying44 hi hz0 hz1 hz2 rfl (by decide) (wq.heap.size + 1) 0 0 [] v39 n (ptsOf (L.take n)) ?_ ?_ (World.ownsRow.drew (own_empty (base := wq.heap.size) _ 25 2 (wq.heap.size + 1) (by simp <;> fail) (by omega))) (Hp39.out _ (by (repeat' (first | (with_reducible exact Below.refl _ _) | (with_reducible refine below_drewN ?_ _) | (with_reducible refine Below.drew ?_) | (with_reducible refine Below.setCell ?_ ?_ _) | (with_reducible refine Below.alloc ?_ ?_ _) | go_size)))) hl39.out (onep_all _) hm39.out hy39.out ?_ ?_; (simp [Act.eval] <;> fail); (simp [Act.eval] <;> fail); (first | omega | (simp <;> fail) | (simp; omega)); intro g1 cap1 w1 hown1 hgrow1; have hb1 : Below wq.heap.size wq w1 := Below.grown (by (repeat' (first | (with_reducible exact Below.refl _ _) | (with_reducible refine below_drewN ?_ _) | (with_reducible refine Below.drew ?_) | (with_reducible refine Below.setCell ?_ ?_ _) | (with_reducible refine Below.alloc ?_ ?_ _) | go_size))) hgrow1 (by first | omega | (simp; done) | (simp; omega)) (fun j e => by cases e; omega); simp only [Nat.zero_add, List.nil_append] at hown1; have hzw1 : wq.heap.size < w1.heap.size := (by have := hgrow1.size; (try simp at this); omega); have hel : Part w1 (.slice (some ⟨wq.heap.size, 0, none⟩) 1 1) 1 [.int .i64 x.q.num, .int .i64 x.q.den] := Part.grown (part_old _ #[.int .i64 x.q.num, .int .i64 x.q.den] 25 _ 1 1 _ (by simp <;> fail)) hgrow1 (by simp <;> omega) (by omega))
          | (refine step_app rfl (.tmp 38) (.tmp 40) 44 rfl wq.heap.size 25 i0 _ 2 16 Tryz.underlying44 hi hz0 hz1 hz2 rfl (by decide) g1 n cap1 (ptsOf (L.take n)) (.slice (some ⟨w1.heap.size, 0, none⟩) 1 1) 1 [.int .i64 x.q.num, .int .i64 x.q.den] ?_ ?_ (hown1.alloc _) (part_block (cs := #[.int .i64 x.q.num, .int .i64 x.q.den]) (t := 25) (heap_alloc_new _ _)) rfl hone.out hm46.out hy46.out ?_ ?_; (simp [Act.eval] <;> fail); (simp [Act.eval] <;> fail); (first | omega | (simp <;> fail) | (simp; omega)); intro g2 cap2 w2 hown2 hgrow2; have hb2 : Below wq.heap.size wq w2 := Below.grown (by first | exact hb1 | exact hb1.alloc (by omega) _) hgrow2 (by first | omega | (simp; done) | (simp; omega)) (fun j e => by cases e; exact own_base4 hown1); have hz2' : wq.heap.size < w2.heap.size := (by have := hgrow2.size; (try simp at this); omega))
          | (refine step_app rfl (.tmp 38) (.tmp 40) 44 rfl wq.heap.size 25 i0 _ 2 16 Tryz.underlying44 hi hz0 hz1 hz2 rfl (by decide) g1 n cap1 (ptsOf (L.take n)) (.slice (some ⟨(wq.heap.size + 1), 0, none⟩) 1 1) 1 [.int .i64 x.q.num, .int .i64 x.q.den] ?_ ?_ hown1 hel rfl hone.out hm46.out hy46.out ?_ ?_; (simp [Act.eval] <;> fail); (simp [Act.eval] <;> fail); (first | omega | (simp <;> fail) | (simp; omega)); intro g2 cap2 w2 hown2 hgrow2; have hb2 : Below wq.heap.size wq w2 := Below.grown (by first | exact hb1 | exact hb1.alloc (by omega) _) hgrow2 (by first | omega | (simp; done) | (simp; omega)) (fun j e => by cases e; exact own_base4 hown1); have hz2' : wq.heap.size < w2.heap.size := (by have := hgrow2.size; (try simp at this); omega))
          | (refine step_app rfl (.tmp 38) (.tmp 40) 44 rfl wq.heap.size 25 i0 _ 2 16 Tryz.underlying44 hi hz0 hz1 hz2 rfl (by decide) g1 n cap1 (ptsOf (L.take n)) (.slice (some ⟨wq.heap.size, 0, none⟩) 1 1) 1 [.int .i64 x.q.num, .int .i64 x.q.den] ?_ ?_ hown1 hel rfl hone.out hm46.out hy46.out ?_ ?_; (simp [Act.eval] <;> fail); (simp [Act.eval] <;> fail); (first | omega | (simp <;> fail) | (simp; omega)); intro g2 cap2 w2 hown2 hgrow2; have hb2 : Below wq.heap.size wq w2 := Below.grown (by first | exact hb1 | exact hb1.alloc (by omega) _) hgrow2 (by first | omega | (simp; done) | (simp; omega)) (fun j e => by cases e; exact own_base4 hown1); have hz2' : wq.heap.size < w2.heap.size := (by have := hgrow2.size; (try simp at this); omega))
          | (refine step_app rfl (.tmp 41) (.tmp 44) 44 rfl wq.heap.size 25 i0 _ 2 16 Tryz.underlying44 hi hz0 hz1 hz2 rfl (by decide) g2 (n + 1) cap2 (ptsOf (L.take n) ++ [.int .i64 x.q.num, .int .i64 x.q.den]) v49 (L.length - n) (ptsOf (L.drop n)) ?_ ?_ hown2 (Hp49.out _ hb2) hl49.out (onep_all _) hm50.out hy50.out ?_ ?_; (simp [Act.eval] <;> fail); (simp [Act.eval] <;> fail); (first | omega | (simp <;> fail) | (simp; omega)); intro g3 cap3 w3 hown3 hgrow3; have hb3 : Below wq.heap.size wq w3 := Below.grown hb2 hgrow3 (by omega) (fun j e => by cases e; exact own_base4 hown2)))
        all_goals
          have hMl : n + 1 + (L.length - n) = (L.take n ++ [x] ++ L.drop n).length := by simp; omega
          have hMc : (ptsOf (L.take n) ++ [.int .i64 x.q.num, .int .i64 x.q.den]) ++ ptsOf (L.drop n) = ptsOf (L.take n ++ [x] ++ L.drop n) := by rw [ptsOf_append, ptsOf_snoc]; rfl
          have hOut := Lib.hid (OutP.of_own' hown3 hMl hMc (by simp))
          have hIns := Lib.hid (insP_put n hL hlt.out hdr.out)
          have hBe := Lib.hid (hB4.out.trans (hb3.mono hB4.out.size))
          have hlen2 : (L.take n ++ [x] ++ L.drop n).length ≤ L.length + 1 := by rw [← hMl]; omega
          clear hown3 hgrow3 hb3
          go_wp2
          go_ret
          exact ⟨.slice (some ⟨g3, 0, none⟩) (n + 1 + (L.length - n)) cap3, _, rfl, hOut.out, hIns.out, hlen2, by have := Hbx.out; subst this; exact hB0.trans (hBe.out.mono hB0.size)⟩
end Go.Proofs.YtbncfknjgldcbaaGreat.Ref
/- calculus.prepare. -/
namespace Go.Proofs.YtbncfknjgldcbaaGreat
open Go.RowKit Go.Joins Go.Shelf Go.Sort Num

/-- A slice of length 0 adds nothing to a row of the call's own. -/
theorem app_any {P : Program} (w : World) {ops : Array Oper} {rest : List Oper} {o : Oper} {a : Act} {Q : Exit → Act → World → Prop} (hgd : o.guard = none) (s x : Operand) (t : TypeId)
    (ho : o.op = .call { callee := .builtin .append, args := #[s, x], argTypes := #[t, t] })
    (base : Nat) (e : TypeId) (i : TypeInfo) (z : Value) (size bytes : Nat) (ht : P.underlying t = some (.slice e)) (hi : P.info? e = some i) (hz : i.zero = some z)
    (hsize : i.size = size) (hby : i.bytes = bytes) (hzs : z.cells.size = size) (hsz : 0 < size)
    (sv : Value) (n : Nat) (xs : List Value) (hs : a.eval s = sv) (hown : w.ownsRow base e size sv n xs)
    (A : Option Addr) (m c : Nat) (news : List Value) (hx : a.eval x = .slice A m c) (hl : news.length = m * size) (hp : m ≠ 0 → ∃ ad, A = some ad ∧ ∀ j u, news[j]? = some u → w.cell? (ad.add j) = some u) (h1 : ∀ u ∈ news, u.oneCell' = true)
    (h63 : n + m ≤ maxLen) (hbytes : (n + m) * bytes ≤ 140737488355328) (hbase : base ≤ w.heap.size)
    (h : ∀ v' w', w'.ownsRow base e size v' (n + m) (xs ++ news) → w.grownBy w' sv.ownBlock → wpList P ops Q rest (a.put o.dst v') w') : wpList P ops Q (o :: rest) a w := by
  have h0 : m = 0 → news = [] := fun k => by subst k; exact List.eq_nil_of_length_eq_zero (by simpa using hl)
  rcases A with _ | ad
  · have hm : m = 0 := by
      by_cases k : m = 0
      · exact k
      · obtain ⟨_, h, _⟩ := hp k; cases h
    subst hm
    obtain rfl := h0 rfl
    have hrun : (Builtin.append_ #[t, t] o.type #[sv, .slice none 0 c]).run P w = .ok sv w := by
      rcases hown.2 with ⟨rfl, rfl⟩ | ⟨g, cap, cur, rfl, _, _, hnc, _⟩
      · simp [Builtin.append_, run_underlying ht, sizeOf, typeInfo, hi, Builtin.lenOf, Builtin.firstCells]
      · simp [Builtin.append_, run_underlying ht, sizeOf, typeInfo, hi, Builtin.lenOf, Builtin.firstCells, hnc, storeCells]
    refine wpList_plain hgd fun K hK => ?_
    unfold Oper.wp
    simp [execOp, ho, resolve, invoke, builtin, hs, hx, hrun, Result.andThen]
    exact hK _ _ (h sv w (by simpa using hown) (World.grownBy.refl _ _))
  · refine wpList_append_own w hgd s x t ho base e i z size bytes ht hi hz hsize hby hzs hsz sv n xs hs hown ad m c news hx hl ?_ h1 h63 hbytes hbase fun v' w' h2 h3 h4 => h v' w' h2 h3
    intro j u hu
    by_cases k : m = 0
    · rw [h0 k] at hu; simp at hu
    · obtain ⟨ad', e1, e2⟩ := hp k
      cases e1
      exact e2 j u hu

theorem row_pts {W : World} {g : Nat} {c : List Pt} (h : Row2 W g 0 c) (j : Nat) (u : Value) (hu : (ptsOf c)[j]? = some u) : W.cell? ((⟨g, 0, none⟩ : Addr).add j) = some u := by
  have hj : j < c.length * 2 := by have := (List.getElem?_eq_some_iff.1 hu).1; rwa [ptsOf_length] at this
  have hx : c[j / 2]? = some (c[j / 2]'(by omega)) := List.getElem?_eq_getElem (by omega)
  obtain ⟨h0, h1⟩ := h _ _ hx
  have e := flat_pts c (j / 2) (j % 2) _ hx (by omega)
  rw [show j / 2 * 2 + j % 2 = j by omega, hu] at e
  simp only [Nat.zero_add] at h0 h1
  rw [show (⟨g, 0, none⟩ : Addr).add j = ⟨g, 0 + j, none⟩ from by simp [Addr.add]; exact Eq.symm]
  rcases Nat.mod_two_eq_zero_or_one j with k | k
  · rw [k] at e
    rw [show 0 + j = j / 2 * 2 by omega, h0]
    exact e.symm
  · rw [k] at e
    rw [show 0 + j = j / 2 * 2 + 1 by omega, h1]
    exact e.symm
def brksOk (cs : List (List Buck)) : Prop := ∀ c ∈ cs, ∀ p ∈ twosL (normL c), okm p
instance (cs : List (List Buck)) : Decidable (brksOk cs) := inferInstanceAs (Decidable (∀ c ∈ cs, ∀ p ∈ twosL (normL c), okm p))
def ptsL (cs : List (List Buck)) : List Pt := cs.flatMap fun c => brkL (normL c)
theorem ptsL_snoc (cs : List (List Buck)) (c : List Buck) : ptsL (cs ++ [c]) = ptsL cs ++ brkL (normL c) := by simp [ptsL]
/-- The error of prepare. -/
def prepE (cs : List (List Buck)) (r : Rat) : Int := if brksOk cs then (match rateO cs with | none => 3 | some R => if r < R then 6 else 0) else 3
theorem brk_len {c : List Buck} (h : c.length ≤ 32) : (brkL (normL c)).length ≤ 1024 := by
  have h1 := Nat.le_trans (normL_len c) h
  have h2 := Nat.le_trans (twosL_length (normL c)) (Nat.mul_le_mul h1 h1)
  refine Nat.le_trans (compL_len _) ?_
  rw [sortP_length, List.length_map]
  exact h2
theorem ptsL_len : ∀ {cs : List (List Buck)}, (∀ c ∈ cs, c.length ≤ 32) → (ptsL cs).length ≤ 1024 * cs.length
  | [], _ => by simp [ptsL]
  | c :: cs, h => by
    have h1 := brk_len (h c List.mem_cons_self)
    have h2 := ptsL_len fun x hx => h x (List.mem_cons_of_mem c hx)
    unfold ptsL at h2 ⊢
    rw [List.flatMap_cons, List.length_append, List.length_cons]
    omega
theorem isL.raw {A : Option Addr} {cs : List (List Buck)} {W : World} (h : isL A cs W) : isLR A (cs.map (List.map Buck.raw)) W := by
  obtain ⟨hok, vs, h2, h3, h4⟩ := h
  refine ⟨fun c hc => ?_, vs, by simpa using h2, h3, fun j v c k1 k2 => ?_⟩
  · obtain ⟨d, hd, rfl⟩ := List.mem_map.1 hc
    have := hok d hd
    exact ⟨by simp; omega, fun x hx => by obtain ⟨y, -, rfl⟩ := List.mem_map.1 hx; exact raw_bd y⟩
  · rw [List.getElem?_map] at k2
    obtain ⟨d, hd, rfl⟩ := Option.map_eq_some_iff.1 k2
    obtain ⟨B, cap, rfl, hi⟩ := h4 j v d k1 hd
    exact ⟨B, cap, by simp, by have := slR_iff.2 hi; simpa using this⟩
theorem num_pos' {r : Rat} (h : 0 < r) : 0 < r.num := by
  have h1 := Rat.num_nonneg.2 (Rat.le_of_lt h)
  have h2 : r.num ≠ 0 := fun k => by rw [Rat.num_eq_zero.1 k] at h; exact Rat.lt_irrefl h
  omega
theorem srv_yes {r L : Rat} (hr : Fit r) (hr0 : 0 < r) (hL : Fit L) (hL0 : 0 ≤ L) : srvB r.num r.den L.num L.den = true := by
  unfold srvB
  rw [fit_vld hr, fit_vld hL, decide_eq_true (num_pos' hr0), decide_eq_true (Rat.num_nonneg.2 hL0)]
  rfl

set_option maxRecDepth 100000 in
set_option maxHeartbeats 2000000 in
theorem prep_bad (A : Option Addr) (cap : Nat) (cs : List (List Bk)) (rn rd ln ld : Int) (h1 : I64 rn) (h2 : I64 rd) (h3 : I64 ln) (h4 : I64 ld) (w : World) (hI : cs.length ≤ 32 → isLR A cs w) (hbad : cs.length ≤ 32 → srvB rn rd ln ld = true → cs.all valC = true → False) :
    Calls Tryz.prog 67 #[.slice A cs.length cap, .agg #[.int .i64 rn, .int .i64 rd, .int .i64 ln, .int .i64 ld]] w fun e w' => e = .returned (.tuple #[.slice none 0 0, .int .i64 2]) ∧ Below w.heap.size w w' := by
  have hB0 := (Below.refl w.heap.size w).alloc (Nat.le_refl _) (.cells #[.int .i64 rn, .int .i64 rd, .int .i64 ln, .int .i64 ld] 52)
  have bS := BoxN.new w 52 #[.int .i64 rn, .int .i64 rd, .int .i64 ln, .int .i64 ld]
  have s0 := bS.cell 0
  have s1 := bS.cell 1
  have s2 := bS.cell 2
  have s3 := bS.cell 3
  by_cases hl : 32 < cs.length
  · have z : (32 : Int) < cs.length := by omega
    have hB := hB0
    clear hI hbad hB0
    go_enter Tryz.func67, Tryz.ntmps67
    go_wp2
    refine bodyPost_ret (v := .tuple #[.slice none 0 0, .int .i64 2]) (by simp [results, Tryz.results67, go_sem]) rfl ⟨rfl, hB⟩
  have z : decide ((32 : Int) < cs.length) = false := by simp; omega
  have HV := Lib.hid (fun W => server_any rn rd ln ld h1 h2 h3 h4 W)
  have HC := Lib.hid (fun W (hW : Below w.heap.size w W) => bad_any A cap cs (by omega) W (cl_isLR A cs w W (hI (by omega)) hW))
  have hbad := Lib.hid (hbad (by omega))
  clear hI
  generalize srvB rn rd ln ld = b1 at HV hbad
  generalize cs.all valC = b2 at HC hbad
  go_enter Tryz.func67, Tryz.ntmps67
  go_wp2_with fail
  (with_reducible refine (HV.out _).mono ?_); rintro _ w1 ⟨rfl, hb1⟩
  have hB1 := hB0.trans (hb1.mono hB0.size)
  clear s0 s1 s2 s3 hb1 hB0
  cases b1
  · have hB := hB1
    go_wp2
    refine bodyPost_ret (v := .tuple #[.slice none 0 0, .int .i64 2]) (by simp [results, Tryz.results67, go_sem]) rfl ⟨rfl, hB⟩
  have HCx := Lib.hid (HC.out w1 hB1)
  go_wp2_with fail
  (with_reducible refine (HCx.out).mono ?_); rintro _ w2 ⟨rfl, hb2⟩
  have hB := hB1.trans (hb2.mono hB1.size)
  clear hb2 hB1
  cases b2
  · go_wp2
    refine bodyPost_ret (v := .tuple #[.slice none 0 0, .int .i64 2]) (by simp [results, Tryz.results67, go_sem]) rfl ⟨rfl, hB⟩
  · exact False.elim (by simpa using hbad.out)

set_option maxRecDepth 100000 in
set_option maxHeartbeats 4000000 in
theorem prep_ok (A : Option Addr) (cap : Nat) (cs : List (List Buck)) (hl : cs.length ≤ 32) (r L : Rat) (hr : Fit r) (hr0 : 0 < r) (hL : Fit L) (hL0 : 0 ≤ L) (w : World) (hI : isL A cs w) :
    Calls Tryz.prog 67 #[.slice A cs.length cap, .agg #[.int .i64 r.num, .int .i64 r.den, .int .i64 L.num, .int .i64 L.den]] w fun e w' =>
      (prepE cs r ≠ 0 → e = .returned (.tuple #[.slice none 0 0, .int .i64 (prepE cs r)])) ∧ (prepE cs r = 0 → ∃ v, e = .returned (.tuple #[v, .int .i64 0]) ∧ w'.ownsRow (w.heap.size + 1) 25 2 v (ptsL cs).length (ptsOf (ptsL cs))) ∧ Below w.heap.size w w' := by
  obtain ⟨i0, hi, hz0, hz1, hz2⟩ := info_parts infoR
  have hB0 := (Below.refl w.heap.size w).alloc (Nat.le_refl _) (.cells #[.int .i64 r.num, .int .i64 r.den, .int .i64 L.num, .int .i64 L.den] 52)
  have bS := BoxN.new w 52 #[.int .i64 r.num, .int .i64 r.den, .int .i64 L.num, .int .i64 L.den]
  have h1 := fit_bd hr
  have h2 := fit_bd hL
  have HV := fun W => server_any r.num r.den L.num L.den (by unfold I64; omega) (by unfold I64; omega) (by unfold I64; omega) (by unfold I64; omega) W
  rw [srv_yes hr hr0 hL hL0] at HV
  have HC := fun W (hW : Below w.heap.size w W) => bad_any A cap (cs.map (List.map Buck.raw)) (by simp; omega) W (cl_isL A cs w W hI hW).raw
  have hall : (cs.map (List.map Buck.raw)).all valC = true := by
    rw [List.all_eq_true]
    intro c hc
    obtain ⟨d, hd, rfl⟩ := List.mem_map.1 hc
    have := hI.ok d hd
    exact val_true this.1 this.2
  rw [hall, List.length_map] at HC
  have HS := Lib.hid (fun W (hW : Below w.heap.size w W) => rates_any A cap cs (by omega) W (cl_isL A cs w W hI hW))
  have HM : ∀ (x : Rat) (hx : Fit x) (W : World), _ := fun x hx W => cmp_r hx hr W
  obtain ⟨hok, vs, hvl, hv, hvc⟩ := hI
  have HB : Hid (∀ (j : Nat) (v : Value) (c : List Buck), vs[j]? = some v → cs[j]? = some c → ∀ W : World, Below w.heap.size w W → Calls Tryz.prog 23 #[v] W (BreaksPost (normL c) W)) := fun j v c k1 k2 W hW => by
    obtain ⟨B, cb, rfl, hi⟩ := hvc j v c k1 k2
    obtain ⟨m1, m2⟩ := hok c (List.mem_of_getElem? k2)
    exact callsIn_wide.1 (breaks_in B cb c m1 m2 W (cl_isC B cb c w W hi hW))
  have hlens := Lib.hid fun c hc => (hok c hc).2
  clear hall hvc hok
  have z : decide ((32 : Int) < cs.length) = false := by simp; omega
  have s0 := bS.cell 0
  have s1 := bS.cell 1
  have s2 := bS.cell 2
  have s3 := bS.cell 3
  obtain ⟨res, hres⟩ : ∃ res, prepE cs r = res := ⟨_, rfl⟩
  rw [hres]
  replace hres := Lib.hid hres
  generalize r.num = rn at *
  generalize (r.den : Int) = rd at *
  generalize L.num = Ln at *
  generalize (L.den : Int) = Ld at *
  replace HV := Lib.hid HV
  replace HC := Lib.hid HC
  replace HM := Lib.hid HM
  clear h1 h2 hL0 hL hr
  go_enter Tryz.func67, Tryz.ntmps67
  go_wp2_with fail
  (with_reducible refine (HV.out _).mono ?_); rintro _ w1 ⟨rfl, hb1⟩
  have hB1 := hB0.trans (hb1.mono hB0.size)
  have bS1 := bS.below hb1 bS.lt
  have HCx := Lib.hid (HC.out w1 hB1)
  clear s0 s1 s2 s3 hb1 hB0 bS HV
  go_wp2_with fail
  (with_reducible refine (HCx.out).mono ?_); rintro _ w2 ⟨rfl, hb2⟩
  have hB2 := hB1.trans (hb2.mono hB1.size)
  have bS2 := bS1.below hb2 bS1.lt
  have kS2 := bS2.lt
  clear hb2 hB1 bS1 HCx HC
  go_wp2_with fail
  go_loopw [7, 29] (fun sv i wr => ∃ k : Nat, k ≤ cs.length ∧ i = .int .i64 ↑k ∧ Hid (brksOk (cs.take k)) ∧ wr.ownsRow (w.heap.size + 1) 25 2 sv (ptsL (cs.take k)).length (ptsOf (ptsL (cs.take k))) ∧ BoxN wr w.heap.size 52 #[.int .i64 rn, .int .i64 rd, .int .i64 Ln, .int .i64 Ld] ∧ Below w.heap.size w wr)
    (fun _ i _ => cs.length - (intOf i).toNat)
  case atStart => exact ⟨0, Nat.zero_le _, rfl, by intro c hc; simp at hc, World.ownsRow_nil _ _ _ _, bS2, hB2⟩
  case round =>
    obtain ⟨k, hk, rfl, hok, hown, bS, hB⟩ := hrel
    have hkS := bS.lt
    by_cases hlt : k < cs.length
    · have hv0 : vs[k]? = some (vs[k]'(by omega)) := List.getElem?_eq_getElem (by omega)
      obtain ⟨v, hve⟩ : ∃ v, vs[k]'(by omega) = v := ⟨_, rfl⟩
      rw [hve] at hv0
      obtain ⟨c, hc⟩ : ∃ c, cs[k]? = some c := ⟨_, List.getElem?_eq_getElem hlt⟩
      obtain ⟨b, off, rfl, hb, hr⟩ := hv (by intro h; subst h; simp at hvl; omega)
      have c0 := (hB.cell (p := ⟨b, off + k, none⟩) hb).trans (hr k v hv0)
      have hbz := Nat.lt_of_lt_of_le hb hB.size
      have hC := Lib.hid (HB.out k v c hv0 hc wr hB)
      have hts := Lib.hid (take_succ' hc)
      have hmem := List.mem_of_getElem? hc
      have hcl := hlens.out c hmem
      have hbl := brk_len hcl
      have hpl := ptsL_len (cs := cs.take k) fun x hx => hlens.out x (List.mem_of_mem_take hx)
      rw [List.length_take] at hpl
      have hno : Hid ((¬ ∀ p ∈ twosL (normL c), okm p) → prepE cs r = 3) := fun h => if_neg fun h' => h (h' c hmem)
      have hyes : Hid ((∀ p ∈ twosL (normL c), okm p) → brksOk (cs.take (k + 1))) := fun h => by
        rw [hts.out]
        intro x hx
        rcases List.mem_append.1 hx with hx | hx
        · exact hok.out x hx
        · simp at hx; subst hx; exact h
      clear hv0 hve hc hr hmem hcl
      go_wp2_with fail
      (with_reducible refine (hC.out).mono ?_); rintro e w3 ⟨hp1, hp2, hb3⟩
      have hB3 := hB.trans (hb3.mono hB.size)
      have bS3 := bS.below hb3 bS.lt
      have hown3 := Lib.hid (own_below hown hb3)
      clear c0 hC hb3 hown bS
      by_cases hall : ∀ p ∈ twosL (normL c), okm p
      · obtain ⟨A3, c3, rfl, hpt⟩ := hp2 hall
        have hok2 := Lib.hid (hyes.out hall)
        have hpt := Lib.hid hpt
        clear hp1 hp2 hno hyes hall
        have hpts : Hid (ptsL (cs.take (k + 1)) = ptsL (cs.take k) ++ (brkL (normL c))) := by unfold Hid; rw [hts.out, ptsL_snoc]
        have hm := Lib.hid (show (ptsL (cs.take k)).length + (brkL (normL c)).length ≤ maxLen by unfold maxLen; omega)
        have hy := Lib.hid (show ((ptsL (cs.take k)).length + (brkL (normL c)).length) * 16 ≤ 140737488355328 by omega)
        have hcell : Hid ((brkL (normL c)).length ≠ 0 → ∃ ad, A3 = some ad ∧ ∀ j u, (ptsOf (brkL (normL c)))[j]? = some u → w3.cell? (ad.add j) = some u) := fun h => by
          obtain ⟨g, rfl, hg, hr⟩ := hpt.out (fun h' => h (by rw [h']; rfl))
          exact ⟨_, rfl, fun j u hu => row_pts hr j u hu⟩
        go_wp2_with (at_builtin; go_loud (refine app_any _ rfl (.tmp 41) (.tmp 42) 44 rfl (w.heap.size + 1) 25 i0 _ 2 16 Tryz.underlying44 hi hz0 hz1 hz2 rfl (by decide) _ (ptsL (cs.take k)).length (ptsOf (ptsL (cs.take k))) rfl hown3.out A3 (brkL (normL c)).length c3 (ptsOf (brkL (normL c))) rfl (ptsOf_length (brkL (normL c))) hcell.out (Ref.onep_all (brkL (normL c))) hm.out hy.out (by have := bS3.lt; omega) ?_); intro v4 w4 hown4 hg4)
        have hB4 := Lib.hid (Below.grown hB3 hg4 hB3.size (fun j e => by have := own_block_le hown3.out e; omega))
        have bS4 := Lib.hid (bS3.kept hg4 (fun e => by have := own_block_le hown3.out e.symm; omega))
        have hown4' : Hid (w4.ownsRow (w.heap.size + 1) 25 2 v4 (ptsL (cs.take (k + 1))).length (ptsOf (ptsL (cs.take (k + 1))))) := by
          unfold Hid
          rw [hpts.out, List.length_append, show ptsOf (ptsL (cs.take k) ++ brkL (normL c)) = ptsOf (ptsL (cs.take k)) ++ ptsOf (brkL (normL c)) from List.flatMap_append]
          exact hown4
        clear hown4 hg4
        go_wp2
        go_roundw
        case rel => exact ⟨k + 1, hlt, by go_num, hok2.out, hown4'.out, bS4.out, hB4.out⟩
        case measure => simp [intOf]; omega
      · obtain rfl := hp1 hall
        have he := hno.out hall
        rw [hres.out] at he
        subst he
        have hB := hB3
        clear hp1 hp2
        go_wp2
        refine bodyPost_ret (v := .tuple #[.slice none 0 0, .int .i64 3]) (by simp [results, Tryz.results67, go_sem]) rfl ⟨fun _ => rfl, (fun h => absurd h (by decide)), hB⟩
    · obtain rfl : k = cs.length := by omega
      rw [List.take_length] at hok hown
      have HSx := HS.out wr hB
      have hrf : fitO (rateO cs) := sumO_fit
      have hres2 : Hid (res = match rateO cs with | none => 3 | some R => if r < R then 6 else 0) := by unfold Hid; rw [← hres.out]; exact if_pos hok.out
      clear hok
      generalize rateO cs = ro at HSx hrf hres2
      have hown := Lib.hid hown
      rcases ro with _ | x
      · simp only [numV, ratV] at HSx
        replace HSx := Lib.hid HSx
        have he := hres2.out
        simp only at he
        subst he
        go_wp2_with fail
        (with_reducible refine (HSx.out).mono ?_); rintro _ w3 ⟨rfl, hb3⟩
        have hB := hB.trans (hb3.mono hB.size)
        clear hb3
        go_wp2
        refine bodyPost_ret (v := .tuple #[.slice none 0 0, .int .i64 3]) (by simp [results, Tryz.results67, go_sem]) rfl ⟨fun _ => rfl, (fun h => absurd h (by decide)), ?_⟩
        (have hBs := hB.size; (try simp only [World.size_alloc] at hBs); repeat' (first | (with_reducible exact hB) | (with_reducible exact hBs) | (with_reducible refine Below.drew ?_) | (with_reducible refine below_drewN ?_ _) | (with_reducible refine Below.setCell ?_ ?_ _) | (with_reducible refine Below.alloc ?_ ?_ _) | go_size | omega | (simp; omega)))
      · have hx := hrf x rfl
        have HMx := HM.out x hx
        have he : Hid (res = if r < x then 6 else 0) := hres2.out
        simp only [numV, ratV] at HSx
        generalize x.num = xn at HSx HMx
        generalize (x.den : Int) = xd at HSx HMx
        have hcq := @Ref.cmpQ_pos x r
        generalize cmpQ x r = cq at HMx hcq
        replace hcq := Lib.hid hcq
        replace HSx := Lib.hid HSx
        replace HMx := Lib.hid HMx
        clear hrf hres2
        go_wp2_with fail
        (with_reducible refine (HSx.out).mono ?_); rintro _ w3 ⟨rfl, hb3⟩
        have hB3 := hB.trans (hb3.mono hB.size)
        have bS3 := (bS.below hb3 bS.lt).alloc (.cells #[.int .i64 xn, .int .i64 xd] 25)
        have hown3 := Lib.hid (own_below hown.out hb3)
        have s0 := bS3.cell 0
        have s1 := bS3.cell 1
        have kS3 := bS3.lt
        have hz3 := hB3.size
        clear hb3 hown bS
        go_wp2_with fail
        (with_reducible refine (HMx.out _).mono ?_); rintro _ w4 ⟨rfl, hb4⟩
        have hB4 := Lib.hid ((hB3.alloc hz3 (.cells #[.int .i64 xn, .int .i64 xd] 25)).trans (hb4.b.mono (by simp; omega)))
        have hown4 := Lib.hid (own_below (hown3.out.alloc (.cells #[.int .i64 xn, .int .i64 xd] 25)) hb4.b)
        clear hb4 s0 s1
        by_cases hq : 0 < cq
        · have h6 : res = 6 := by rw [he.out, if_pos (hcq.out.1 hq)]
          have hqt : decide (0 < cq) = true := decide_eq_true hq
          clear hq
          subst h6
          have hB := hB4.out
          go_wp2
          refine bodyPost_ret (v := .tuple #[.slice none 0 0, .int .i64 6]) (by simp [results, Tryz.results67, go_sem]) rfl ⟨fun _ => rfl, (fun h => absurd h (by decide)), ?_⟩
          (have hBs := hB.size; (try simp only [World.size_alloc] at hBs); repeat' (first | (with_reducible exact hB) | (with_reducible exact hBs) | (with_reducible refine Below.drew ?_) | (with_reducible refine below_drewN ?_ _) | (with_reducible refine Below.setCell ?_ ?_ _) | (with_reducible refine Below.alloc ?_ ?_ _) | go_size | omega | (simp; omega)))
        · have h6 : res = 0 := by rw [he.out, if_neg (fun h => hq (hcq.out.2 h))]
          subst h6
          have hqf : decide (0 < cq) = false := by simp; omega
          have hB := hB4.out
          go_wp2
          refine bodyPost_ret (v := .tuple #[_, .int .i64 0]) (by simp [results, Tryz.results67, go_sem]) rfl ⟨⟨_, rfl, hown4.out⟩, ?_⟩
          (have hBs := hB.size; (try simp only [World.size_alloc] at hBs); repeat' (first | (with_reducible exact hB) | (with_reducible exact hBs) | (with_reducible refine Below.drew ?_) | (with_reducible refine below_drewN ?_ _) | (with_reducible refine Below.setCell ?_ ?_ _) | (with_reducible refine Below.alloc ?_ ?_ _) | go_size | omega | (simp; omega)))
end Go.Proofs.YtbncfknjgldcbaaGreat
/- rat.Floor and rat.Ceil. -/
namespace Go.Proofs.YtbncfknjgldcbaaGreat
open Go.RowKit Go.Joins

/-- What Floor and Ceil return. -/
def floorN (n d : Int) : Int := if vldB n d then n / d else 0
def ceilN (n d : Int) : Int := if vldB n d then -(-n / d) else 0

theorem tdiv_floor (n d : Int) (hd : 0 < d) : n / d = if n.tmod d < 0 then n.tdiv d - 1 else n.tdiv d := by
  have h := Int.mul_tdiv_add_tmod n d
  have h2 : n.tmod d < d := Int.tmod_lt_of_pos n hd
  have h3 : -d < n.tmod d := by
    exact Int.lt_tmod_of_pos n hd
  split
  · rw [Int.ediv_eq_iff_of_pos hd]
    rw [Int.sub_mul, Int.mul_comm]
    omega
  · rw [Int.ediv_eq_iff_of_pos hd]
    rw [Int.mul_comm]
    omega
theorem tdiv_ceil (n d : Int) (hd : 0 < d) : -(-n / d) = if n.tmod d > 0 then n.tdiv d + 1 else n.tdiv d := by
  rw [tdiv_floor (-n) d hd, Int.neg_tdiv, Int.neg_tmod]
  split <;> split <;> omega

theorem tdiv_bd {a d m : Int} (a0 : -m ≤ a) (a1 : a ≤ m) : -m ≤ a.tdiv d ∧ a.tdiv d ≤ m := by
  have h : (a.tdiv d).natAbs ≤ a.natAbs := by rw [Int.natAbs_tdiv]; exact Nat.div_le_self _ _
  omega

set_option maxHeartbeats 1000000 in
theorem floor_any (a b : Int) (w : World) (a0 : -9223372036854775808 ≤ a) (a1 : a ≤ 9223372036854775807) (b0 : -9223372036854775808 ≤ b) (b1 : b ≤ 9223372036854775807) :
    Calls Tryz.prog 109 #[.agg #[.int .i64 a, .int .i64 b]] w fun e w' => e = .returned (.int .i64 (floorN a b)) ∧ Below w.heap.size w w' := by
  unfold floorN
  cases hx : vldB a b
  · have Hx := Lib.hid hx
    clear hx
    simp only [Bool.false_eq_true, if_false]
    go_enter Tryz.func109, Tryz.ntmps109
    go_wp2_with fail
    refine (valid_any a b _ a0 a1 b0 b1).mono ?_; rintro e w1 ⟨rfl, hb1⟩; rw [Hx.out]
    go_wp2
    go_ret
    exact ⟨rfl, ((Below.refl _ _).alloc (Nat.le_refl _) _).trans (hb1.mono (by simp))⟩
  obtain ⟨b2, b3, a2, a3, -⟩ := vld_bd hx
  have Hx := Lib.hid hx
  clear hx
  simp only [if_true]
  have hbz : (b == 0) = false := by simp; omega
  have q := tdiv_floor a b (by omega)
  obtain ⟨q1, q2⟩ := tdiv_bd (d := b) a2 a3
  by_cases ha : 0 ≤ a
  · rw [Int.tdiv_eq_ediv_of_nonneg ha] at q q1 q2
    rw [Int.tmod_eq_emod_of_nonneg ha] at q
    have Hq := Lib.hid q
    clear q
    have m0 : 0 ≤ a % b := Int.emod_nonneg _ (by omega)
    have q0 : 0 ≤ a / b := Int.ediv_nonneg ha (by omega)
    go_enter Tryz.func109, Tryz.ntmps109
    go_wp2_with fail
    refine (valid_any a b _ a0 a1 b0 b1).mono ?_; rintro e w1 ⟨rfl, hb1⟩; rw [Hx.out]
    obtain ⟨hc, hf⟩ := bcell hb1
    simp only [World.size_alloc] at hc hf
    go_wp2
    all_goals
      go_ret
      exact ⟨ret_int (by rw [Hq.out]; try (split <;> first | rfl | omega)), ((Below.refl _ _).alloc (Nat.le_refl _) _).trans (hb1.mono (by simp))⟩
  · have Hq := Lib.hid q
    clear q
    go_enter Tryz.func109, Tryz.ntmps109
    go_wp2_with fail
    refine (valid_any a b _ a0 a1 b0 b1).mono ?_; rintro e w1 ⟨rfl, hb1⟩; rw [Hx.out]
    obtain ⟨hc, hf⟩ := bcell hb1
    simp only [World.size_alloc] at hc hf
    go_wp2
    all_goals
      go_ret
      exact ⟨ret_int (by rw [Hq.out]; try (split <;> first | rfl | omega)), ((Below.refl _ _).alloc (Nat.le_refl _) _).trans (hb1.mono (by simp))⟩

set_option maxHeartbeats 1000000 in
theorem ceil_any (a b : Int) (w : World) (a0 : -9223372036854775808 ≤ a) (a1 : a ≤ 9223372036854775807) (b0 : -9223372036854775808 ≤ b) (b1 : b ≤ 9223372036854775807) :
    Calls Tryz.prog 110 #[.agg #[.int .i64 a, .int .i64 b]] w fun e w' => e = .returned (.int .i64 (ceilN a b)) ∧ Below w.heap.size w w' := by
  unfold ceilN
  cases hx : vldB a b
  · have Hx := Lib.hid hx
    clear hx
    simp only [Bool.false_eq_true, if_false]
    go_enter Tryz.func110, Tryz.ntmps110
    go_wp2_with fail
    refine (valid_any a b _ a0 a1 b0 b1).mono ?_; rintro e w1 ⟨rfl, hb1⟩; rw [Hx.out]
    go_wp2
    go_ret
    exact ⟨rfl, ((Below.refl _ _).alloc (Nat.le_refl _) _).trans (hb1.mono (by simp))⟩
  obtain ⟨b2, b3, a2, a3, -⟩ := vld_bd hx
  have Hx := Lib.hid hx
  clear hx
  simp only [if_true]
  have hbz : (b == 0) = false := by simp; omega
  have q := tdiv_ceil a b (by omega)
  obtain ⟨q1, q2⟩ := tdiv_bd (d := b) a2 a3
  by_cases ha : 0 ≤ a
  · rw [Int.tdiv_eq_ediv_of_nonneg ha] at q q1 q2
    rw [Int.tmod_eq_emod_of_nonneg ha] at q
    have Hq := Lib.hid q
    clear q
    have m0 : 0 ≤ a % b := Int.emod_nonneg _ (by omega)
    have q0 : 0 ≤ a / b := Int.ediv_nonneg ha (by omega)
    go_enter Tryz.func110, Tryz.ntmps110
    go_wp2_with fail
    refine (valid_any a b _ a0 a1 b0 b1).mono ?_; rintro e w1 ⟨rfl, hb1⟩; rw [Hx.out]
    obtain ⟨hc, hf⟩ := bcell hb1
    simp only [World.size_alloc] at hc hf
    go_wp2
    all_goals
      go_ret
      exact ⟨ret_int (by rw [Hq.out]; try (split <;> first | rfl | omega)), ((Below.refl _ _).alloc (Nat.le_refl _) _).trans (hb1.mono (by simp))⟩
  · have Hq := Lib.hid q
    clear q
    go_enter Tryz.func110, Tryz.ntmps110
    go_wp2_with fail
    refine (valid_any a b _ a0 a1 b0 b1).mono ?_; rintro e w1 ⟨rfl, hb1⟩; rw [Hx.out]
    obtain ⟨hc, hf⟩ := bcell hb1
    simp only [World.size_alloc] at hc hf
    go_wp2
    all_goals
      go_ret
      exact ⟨ret_int (by rw [Hq.out]; try (split <;> first | rfl | omega)), ((Below.refl _ _).alloc (Nat.le_refl _) _).trans (hb1.mono (by simp))⟩

end Go.Proofs.YtbncfknjgldcbaaGreat
