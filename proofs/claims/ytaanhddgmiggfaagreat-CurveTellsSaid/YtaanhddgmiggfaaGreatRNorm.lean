/- The reference's Norm. -/
import Derived.Test.YtaanhddgmiggfaaGreatRDom
import Derived.IntWalk
namespace Go.Proofs.YtaanhddgmiggfaaGreat.Ref
open Go.RowKit Go.Joins Go.Shelf Go.Sort Num

theorem drop_cons {α : Type} {l : List α} {j : Nat} {y : α} (h : l[j]? = some y) : l.drop j = y :: l.drop (j + 1) := by
  obtain ⟨hl, e⟩ := List.getElem?_eq_some_iff.1 h
  rw [← e, List.drop_eq_getElem_cons hl]
theorem take_all {L : List Buck} {n : Nat} {x : Buck} (h : L.Pairwise Buck.bef) (hn : n ≤ L.length) (hgo : ¬ ∃ j y, n = j + 1 ∧ L[j]? = some y ∧ x.b < y.b) : ∀ z ∈ L.take n, z.b ≤ x.b := by
  cases n with
  | zero => intro z hz; simp at hz
  | succ j =>
    have hy : L[j]? = some (L[j]'(by omega)) := List.getElem?_eq_getElem (by omega)
    exact take_le h hy (Rat.not_lt.1 fun k => hgo ⟨j, _, rfl, hy, k⟩)
theorem OutS.cells {W : World} {A : Option Addr} {cap : Nat} {L : List Buck} (h : OutS W (.slice A L.length cap) L) (hne : L ≠ []) : ∃ g, A = some ⟨g, 0, none⟩ ∧ g < W.heap.size ∧ Row W g 0 L := by
  rcases h with ⟨_, h2⟩ | ⟨g, c', h1, _, _, h4, h5⟩
  · exact absurd h2 hne
  · simp only [Value.slice.injEq] at h1
    exact ⟨g, h1.1, h4, h5⟩
theorem own_base4 {W : World} {base : Nat} {e : TypeId} {size g cap n : Nat} {xs : List Value} (h : W.ownsRow base e size (.slice (some ⟨g, 0, none⟩) n cap) n xs) : base ≤ g := by
  rcases h.2 with ⟨k, _⟩ | ⟨g', c', cur, k, hb, _⟩
  · simp at k
  · simp only [Value.slice.injEq, Option.some.injEq, Addr.mk.injEq] at k; omega
theorem cmpQ_pos {r s : Rat} : 0 < cmpQ r s ↔ s < r := by
  have h1 := @cmpQ_le r s
  constructor
  · intro h; exact Rat.not_le.1 fun k => absurd (h1.2 k) (by omega)
  · intro h; have : ¬ cmpQ r s ≤ 0 := fun k => absurd (h1.1 k) (Rat.not_le.2 h); omega

set_option maxRecDepth 100000 in
set_option maxHeartbeats 8000000 in
theorem norm_any (A : Option Addr) (cap : Nat) (c : List Buck) (hlen : c.length ≤ 1048576) (w : World) (hA : isC A cap c w) :
    Calls Tryz.prog 18 #[.slice A c.length cap] w fun e w' => ∃ v, e = .returned v ∧ OutS w' v (normL c) ∧ Below w.heap.size w w' := by
  obtain ⟨i0, hi, hz0, hz1, hz2⟩ := info_parts infoB
  have HDm : Hid (∀ (k : Nat) (x : Buck), c[k]? = some x → ∀ W : World, Below w.heap.size w W → _) := fun k x hx W hb => dom_any A cap c k x hx hlen W (cl_isC A cap c w W hA hb)
  have HC : Hid (∀ (x y : Buck) (W : World), _) := fun x y W => cmp_r x.hb y.hb W
  have hA' := Lib.hid hA
  have hIn : c ≠ [] → ∃ b off, A = some ⟨b, off, none⟩ ∧ b < w.heap.size ∧ Row w b off c := fun h => hA.cells h
  have HIn := Lib.hid hIn
  clear hA hIn
  go_enter Tryz.func18, Tryz.ntmps18
  go_wp2_with fail
  go_loopw [3, 4] (fun v s wr => ∃ (k : Nat) (L : List Buck), k ≤ c.length ∧ s = .int .i64 ↑k ∧ NrmI c k L ∧ L.length ≤ k ∧ OutS wr v L ∧ Below w.heap.size w wr)
    (fun _ s _ => c.length - (intOf s).toNat)
  case atStart => exact ⟨0, [], Nat.zero_le _, rfl, .zero c, Nat.le_refl _, .nil _, Below.refl _ _⟩
  case round =>
    obtain ⟨k, L, hk, rfl, hN, hLk, hO, hB⟩ := hrel
    by_cases hlt : k < c.length
    · have hx : c[k]? = some c[k] := List.getElem?_eq_getElem hlt
      obtain ⟨x, hxe⟩ : ∃ x, c[k] = x := ⟨_, rfl⟩
      rw [hxe] at hx
      obtain ⟨b, off, rfl, hb, hr⟩ := HIn.out (by intro h; subst h; simp at hlt)
      obtain ⟨Ao, co, rfl⟩ := hO.form
      have hD := HDm.out k x hx wr hB
      have Hx := Lib.hid hx
      have hN := Lib.hid hN
      have hO := Lib.hid hO
      clear hx hxe HDm
      go_wp2_with fail
      refine hD.mono ?_; rintro e w1 ⟨⟨v, rfl, hv⟩, hb1⟩
      have hB1 := hB.trans (hb1.mono hB.size)
      have hO1 := Lib.hid (hO.out.keep hb1)
      have Hv := Lib.hid hv
      clear hD hb1 hO hB hv
      cases v
      · have hnd : Hid (¬ Dom c k) := fun h => by have := Hv.out.2 h; cases this
        clear Hv
        go_wp2_with fail
        go_loopw [5] (fun s wx => ∃ n : Nat, n ≤ L.length ∧ s = .int .i64 ↑n ∧ Hid (∀ y ∈ L.drop n, x.b < y.b) ∧ OutS wx (.slice Ao L.length co) L ∧ Below w.heap.size w wx)
          (fun s _ => (intOf s).toNat)
        case atStart => exact ⟨L.length, Nat.le_refl _, rfl, Lib.hid (show ∀ y ∈ L.drop L.length, x.b < y.b from fun y hy => by rw [List.drop_length] at hy; cases hy), hO1.out, hB1⟩
        case round =>
          obtain ⟨n, hn, rfl, hdr, hO2, hB2⟩ := hrel
          clear hO1 hB1
          have hrow := hr.below hB2 hb
          have hbz : b < wr.heap.size := Nat.lt_of_lt_of_le hb hB2.size
          obtain ⟨x0, x1, x2, x3⟩ := hrow k x Hx.out
          have p0 := Gr.cell x0 hbz
          have p1 := Gr.cell x1 hbz
          haveI : Nonempty (Wd (Gr wr)) := ⟨⟨wr, Below.refl _ _⟩⟩
          have hafter : ∀ s0 : Wd (Gr wr), Below wr.heap.size wr s0.val := fun s0 => s0.ok
          have Haf := Lib.hid hafter
          have Hrow := Lib.hid hrow
          have HO2 := Lib.hid hO2
          clear hafter x0 x1 x2 x3 hrow
          by_cases hgo : ∃ j y, n = j + 1 ∧ L[j]? = some y ∧ x.b < y.b
          · obtain ⟨j, y, hj, hy, hxy⟩ := hgo
            have hn' := Lib.hid (show ∀ z ∈ L.drop j, x.b < z.b from fun z hz => by
              rw [drop_cons hy, List.mem_cons] at hz
              rcases hz with rfl | hz
              · exact hxy
              · exact hdr.out z (by rw [hj]; exact hz))
            obtain ⟨g, rfl, hg, hrowL⟩ := HO2.out.cells (by intro h; subst h; simp at hy)
            obtain ⟨y0, y1, y2, y3⟩ := hrowL j y hy
            simp only [Nat.zero_add] at y0 y1
            have q0 := Gr.cell y0 hg
            have q1 := Gr.cell y1 hg
            have hjl : j < L.length := (List.getElem?_eq_some_iff.1 hy).1
            have z1 : 0 < (n : Int) := by omega
            have i1 : IntKind.i64.wrap ((n : Int) - 1) = j := by rw [IntWalk.i64_in _ (by omega)]; omega
            have i3 : (n : Int) - 1 = j := by omega
            have hk1 := cmpQ_pos.2 hxy
            have HC1 := HC.out y x
            generalize cmpQ y.b x.b = k1 at HC1 hk1
            have HC1 := Lib.hid HC1
            clear hxy y0 y1 y2 y3 hrowL hy
            go_wp2_with fail
            refine wp_region_cls (Gr wr) (by kernel_rfl) (by kernel_rfl) (Gr.start wr) ?_
            repeat (go_big_quiet_step (first | (go_at_call 61; (with_reducible exact Calls.cls Gr.close (HC1.out _)))))
            refine wpQuiet_nil ?_
            intro _ hw'
            obtain ⟨s0, rfl⟩ := hw'
            have hb3 := Haf.out s0
            clear p0 p1 q0 q1
            generalize s0.val = v1 at hb3 ⊢
            go_wp2
            go_roundw
            case rel => exact ⟨j, by omega, by go_num, hn'.out, HO2.out.keep hb3, hB2.trans (hb3.mono hB2.size)⟩
            case measure => simp [intOf]; omega
          · have hle := Lib.hid (take_all (x := x) hN.out.o hn hgo)
            clear hgo
            by_cases h0 : 0 < n
            case' pos =>
              obtain ⟨j, hj⟩ : ∃ j, n = j + 1 := ⟨n - 1, by omega⟩
              obtain ⟨y, hy⟩ : ∃ y, L[j]? = some y := ⟨_, List.getElem?_eq_getElem (by omega)⟩
              have hyx : y.b ≤ x.b := hle.out y (by rw [List.mem_iff_getElem?]; exact ⟨j, by rw [List.getElem?_take, if_pos (by omega)]; exact hy⟩)
              obtain ⟨g, rfl, hg, hrowL⟩ := HO2.out.cells (by intro h; subst h; simp at hy)
              obtain ⟨y0, y1, y2, y3⟩ := hrowL j y hy
              simp only [Nat.zero_add] at y0 y1
              have q0 := Gr.cell y0 hg
              have q1 := Gr.cell y1 hg
              have hjl : j < L.length := (List.getElem?_eq_some_iff.1 hy).1
              have z1 : 0 < (n : Int) := by omega
              have i1 : IntKind.i64.wrap ((n : Int) - 1) = j := by rw [IntWalk.i64_in _ (by omega)]; omega
              have i3 : (n : Int) - 1 = j := by omega
              have Hj := Lib.hid hj
              clear hj
              have hk1 := cmpQ_le.2 hyx
              have HC1 := HC.out y x
              generalize cmpQ y.b x.b = k1 at HC1 hk1
              have hk2 : ¬ 0 < k1 := by omega
              have hk3 : decide (0 < k1) = false := by simp; omega
              have HC1 := Lib.hid HC1
              clear hyx y0 y1 y2 y3 hrowL hy
              go_wp2_with fail
              refine wp_region_cls (Gr wr) (by kernel_rfl) (by kernel_rfl) (Gr.start wr) ?_
              repeat (go_big_quiet_step (first | (go_at_call 61; (with_reducible exact Calls.cls Gr.close (HC1.out _)))))
              refine wpQuiet_nil ?_
              intro _ hw'
              obtain ⟨s0, rfl⟩ := hw'
              have hb3 := Haf.out s0
              clear p0 p1 q0 q1 HC1 hk1 hk2 hk3 i1 i3 z1 hjl Hj hg
            case' neg =>
              have z1 : decide (0 < (n : Int)) = false := by simp; omega
              go_wp2_with fail
              refine wp_region_cls (Gr wr) (by kernel_rfl) (by kernel_rfl) (Gr.start wr) ?_
              repeat (go_big_quiet_step (fail))
              refine wpQuiet_nil ?_
              intro _ hw'
              obtain ⟨s0, rfl⟩ := hw'
              have hb3 := Haf.out s0
              clear p0 p1
            all_goals
              generalize s0.val = v1 at hb3 ⊢
              have hO3 := HO2.out.keep hb3
              have hB3 := hB2.trans (hb3.mono hB2.size)
              have hbz1 : b < v1.heap.size := Nat.lt_of_lt_of_le hbz hb3.size
              obtain ⟨x0, x1, x2, x3⟩ := Hrow.out.below hb3 hbz k x Hx.out
              obtain ⟨v39, hs39, hp39⟩ := cutC_to hO3 n hn
              obtain ⟨v49, hs49, hp49⟩ := cutC_from hO3 n hn
              have Hp39 := Lib.hid hp39
              have Hp49 := Lib.hid hp49
              have HB3 := Lib.hid hB3
              have HO3 := Lib.hid hO3
              clear hp39 hp49 hb3 hB3 hO3 HO2 Hrow hB2 hbz Haf
              go_wp2_with fail
              have hl39 := Lib.hid (show (cellsOf (L.take n)).length = n * 4 by rw [cellsOf_length, List.length_take, Nat.min_eq_left hn])
              have hl49 := Lib.hid (show (cellsOf (L.drop n)).length = (L.length - n) * 4 by rw [cellsOf_length, List.length_drop])
              have hm39 := Lib.hid (show 0 + n ≤ maxLen by unfold maxLen; omega)
              have hm46 := Lib.hid (show n + 1 ≤ maxLen by unfold maxLen; omega)
              have hm50 := Lib.hid (show n + 1 + (L.length - n) ≤ maxLen by unfold maxLen; omega)
              have hy39 := Lib.hid (show (0 + n) * 32 ≤ 140737488355328 by omega)
              have hy46 := Lib.hid (show (n + 1) * 32 ≤ 140737488355328 by omega)
              have hy50 := Lib.hid (show (n + 1 + (L.length - n)) * 32 ≤ 140737488355328 by omega)
              have hone := Lib.hid (show ∀ u ∈ ([.int .i64 x.b.num, .int .i64 x.b.den, .int .i64 x.r.num, .int .i64 x.r.den] : List Value), u.oneCell' = true from one_cells x)
              go_region_law (first
                | (refine step_app rfl (.tmp 36) (.tmp 39) 23 rfl v1.heap.size 80 i0 _ 4 32 Tryz.underlying23 hi hz0 hz1 hz2 rfl (by decide) v1.heap.size 0 0 [] v39 n (cellsOf (L.take n)) ?_ ?_ (World.ownsRow.drew (own_empty (base := v1.heap.size) _ 80 4 v1.heap.size (by simp <;> fail) (Nat.le_refl _))) (Hp39.out _ (by (repeat' (first | (with_reducible exact Below.refl _ _) | (with_reducible refine below_drewN ?_ _) | (with_reducible refine Below.drew ?_) | (with_reducible refine Below.setCell ?_ ?_ _) | (with_reducible refine Below.alloc ?_ ?_ _) | go_size)))) hl39.out (one_all _) hm39.out hy39.out ?_ ?_; (simp [Act.eval] <;> fail); (simp [Act.eval] <;> fail); (first | omega | (simp <;> fail) | (simp; omega)); intro g1 cap1 w1 hown1 hgrow1; have hb1 : Below v1.heap.size v1 w1 := Below.grown (by (repeat' (first | (with_reducible exact Below.refl _ _) | (with_reducible refine below_drewN ?_ _) | (with_reducible refine Below.drew ?_) | (with_reducible refine Below.setCell ?_ ?_ _) | (with_reducible refine Below.alloc ?_ ?_ _) | go_size))) hgrow1 (by first | omega | (simp; done) | (simp; omega)) (fun j e => by cases e; omega); simp only [Nat.zero_add, List.nil_append] at hown1; have hzw1 : v1.heap.size < w1.heap.size := (by have := hgrow1.size; (try simp at this); omega); have x0 := (hb1.cell (p := ⟨b, off + k * 4, none⟩) hbz1).trans x0; have x1 := (hb1.cell (p := ⟨b, off + k * 4 + 1, none⟩) hbz1).trans x1; have x2 := (hb1.cell (p := ⟨b, off + k * 4 + 2, none⟩) hbz1).trans x2; have x3 := (hb1.cell (p := ⟨b, off + k * 4 + 3, none⟩) hbz1).trans x3; have hbw : b < w1.heap.size := by omega)
                | (refine step_app rfl (.tmp 36) (.tmp 39) 23 rfl v1.heap.size 80 i0 _ 4 32 Tryz.underlying23 hi hz0 hz1 hz2 rfl (by decide) v1.heap.size 0 0 [] v39 n (cellsOf (L.take n)) ?_ ?_ (World.ownsRow.drew ((own_empty (base := v1.heap.size) _ 80 4 v1.heap.size (by simp <;> fail) (Nat.le_refl _)).alloc _)) (Hp39.out _ (by (repeat' (first | (with_reducible exact Below.refl _ _) | (with_reducible refine below_drewN ?_ _) | (with_reducible refine Below.drew ?_) | (with_reducible refine Below.setCell ?_ ?_ _) | (with_reducible refine Below.alloc ?_ ?_ _) | go_size)))) hl39.out (one_all _) hm39.out hy39.out ?_ ?_; (simp [Act.eval] <;> fail); (simp [Act.eval] <;> fail); (first | omega | (simp <;> fail) | (simp; omega)); intro g1 cap1 w1 hown1 hgrow1; have hb1 : Below v1.heap.size v1 w1 := Below.grown (by (repeat' (first | (with_reducible exact Below.refl _ _) | (with_reducible refine below_drewN ?_ _) | (with_reducible refine Below.drew ?_) | (with_reducible refine Below.setCell ?_ ?_ _) | (with_reducible refine Below.alloc ?_ ?_ _) | go_size))) hgrow1 (by first | omega | (simp; done) | (simp; omega)) (fun j e => by cases e; omega); simp only [Nat.zero_add, List.nil_append] at hown1; have hzw1 : v1.heap.size < w1.heap.size := (by have := hgrow1.size; (try simp at this); omega); have hel : Part w1 (.slice (some ⟨v1.heap.size + 1, 0, none⟩) 1 1) 1 [.int .i64 x.b.num, .int .i64 x.b.den, .int .i64 x.r.num, .int .i64 x.r.den] := Part.grown (part_new _ #[.int .i64 x.b.num, .int .i64 x.b.den, .int .i64 x.r.num, .int .i64 x.r.den] 80 1 1 _ (by simp <;> fail)) hgrow1 (by simp <;> omega) (by omega))
                | (refine step_app rfl (.tmp 36) (.tmp 39) 23 rfl v1.heap.size 80 i0 _ 4 32 Tryz.underlying23 hi hz0 hz1 hz2 rfl (by decide) (v1.heap.size + 1) 0 0 [] v39 n (cellsOf (L.take n)) ?_ ?_ (World.ownsRow.drew (own_empty (base := v1.heap.size) _ 80 4 (v1.heap.size + 1) (by simp <;> fail) (by omega))) (Hp39.out _ (by (repeat' (first | (with_reducible exact Below.refl _ _) | (with_reducible refine below_drewN ?_ _) | (with_reducible refine Below.drew ?_) | (with_reducible refine Below.setCell ?_ ?_ _) | (with_reducible refine Below.alloc ?_ ?_ _) | go_size)))) hl39.out (one_all _) hm39.out hy39.out ?_ ?_; (simp [Act.eval] <;> fail); (simp [Act.eval] <;> fail); (first | omega | (simp <;> fail) | (simp; omega)); intro g1 cap1 w1 hown1 hgrow1; have hb1 : Below v1.heap.size v1 w1 := Below.grown (by (repeat' (first | (with_reducible exact Below.refl _ _) | (with_reducible refine below_drewN ?_ _) | (with_reducible refine Below.drew ?_) | (with_reducible refine Below.setCell ?_ ?_ _) | (with_reducible refine Below.alloc ?_ ?_ _) | go_size))) hgrow1 (by first | omega | (simp; done) | (simp; omega)) (fun j e => by cases e; omega); simp only [Nat.zero_add, List.nil_append] at hown1; have hzw1 : v1.heap.size < w1.heap.size := (by have := hgrow1.size; (try simp at this); omega); have hel : Part w1 (.slice (some ⟨v1.heap.size, 0, none⟩) 1 1) 1 [.int .i64 x.b.num, .int .i64 x.b.den, .int .i64 x.r.num, .int .i64 x.r.den] := Part.grown (part_old _ #[.int .i64 x.b.num, .int .i64 x.b.den, .int .i64 x.r.num, .int .i64 x.r.den] 80 _ 1 1 _ (by simp <;> fail)) hgrow1 (by simp <;> omega) (by omega))
                | (refine step_app rfl (.tmp 40) (.tmp 45) 23 rfl v1.heap.size 80 i0 _ 4 32 Tryz.underlying23 hi hz0 hz1 hz2 rfl (by decide) g1 n cap1 (cellsOf (L.take n)) (.slice (some ⟨w1.heap.size, 0, none⟩) 1 1) 1 [.int .i64 x.b.num, .int .i64 x.b.den, .int .i64 x.r.num, .int .i64 x.r.den] ?_ ?_ (hown1.alloc _) (part_block (cs := #[.int .i64 x.b.num, .int .i64 x.b.den, .int .i64 x.r.num, .int .i64 x.r.den]) (t := 80) (heap_alloc_new _ _)) rfl hone.out hm46.out hy46.out ?_ ?_; (simp [Act.eval] <;> fail); (simp [Act.eval] <;> fail); (first | omega | (simp <;> fail) | (simp; omega)); intro g2 cap2 w2 hown2 hgrow2; have hb2 : Below v1.heap.size v1 w2 := Below.grown (by first | exact hb1 | exact hb1.alloc (by omega) _) hgrow2 (by first | omega | (simp; done) | (simp; omega)) (fun j e => by cases e; exact own_base4 hown1); have hz2' : v1.heap.size < w2.heap.size := (by have := hgrow2.size; (try simp at this); omega))
                | (refine step_app rfl (.tmp 40) (.tmp 45) 23 rfl v1.heap.size 80 i0 _ 4 32 Tryz.underlying23 hi hz0 hz1 hz2 rfl (by decide) g1 n cap1 (cellsOf (L.take n)) (.slice (some ⟨(v1.heap.size + 1), 0, none⟩) 1 1) 1 [.int .i64 x.b.num, .int .i64 x.b.den, .int .i64 x.r.num, .int .i64 x.r.den] ?_ ?_ hown1 hel rfl hone.out hm46.out hy46.out ?_ ?_; (simp [Act.eval] <;> fail); (simp [Act.eval] <;> fail); (first | omega | (simp <;> fail) | (simp; omega)); intro g2 cap2 w2 hown2 hgrow2; have hb2 : Below v1.heap.size v1 w2 := Below.grown (by first | exact hb1 | exact hb1.alloc (by omega) _) hgrow2 (by first | omega | (simp; done) | (simp; omega)) (fun j e => by cases e; exact own_base4 hown1); have hz2' : v1.heap.size < w2.heap.size := (by have := hgrow2.size; (try simp at this); omega))
                | (refine step_app rfl (.tmp 40) (.tmp 45) 23 rfl v1.heap.size 80 i0 _ 4 32 Tryz.underlying23 hi hz0 hz1 hz2 rfl (by decide) g1 n cap1 (cellsOf (L.take n)) (.slice (some ⟨v1.heap.size, 0, none⟩) 1 1) 1 [.int .i64 x.b.num, .int .i64 x.b.den, .int .i64 x.r.num, .int .i64 x.r.den] ?_ ?_ hown1 hel rfl hone.out hm46.out hy46.out ?_ ?_; (simp [Act.eval] <;> fail); (simp [Act.eval] <;> fail); (first | omega | (simp <;> fail) | (simp; omega)); intro g2 cap2 w2 hown2 hgrow2; have hb2 : Below v1.heap.size v1 w2 := Below.grown (by first | exact hb1 | exact hb1.alloc (by omega) _) hgrow2 (by first | omega | (simp; done) | (simp; omega)) (fun j e => by cases e; exact own_base4 hown1); have hz2' : v1.heap.size < w2.heap.size := (by have := hgrow2.size; (try simp at this); omega))
                | (refine step_app rfl (.tmp 46) (.tmp 49) 23 rfl v1.heap.size 80 i0 _ 4 32 Tryz.underlying23 hi hz0 hz1 hz2 rfl (by decide) g2 (n + 1) cap2 (cellsOf (L.take n) ++ [.int .i64 x.b.num, .int .i64 x.b.den, .int .i64 x.r.num, .int .i64 x.r.den]) v49 (L.length - n) (cellsOf (L.drop n)) ?_ ?_ hown2 (Hp49.out _ hb2) hl49.out (one_all _) hm50.out hy50.out ?_ ?_; (simp [Act.eval] <;> fail); (simp [Act.eval] <;> fail); (first | omega | (simp <;> fail) | (simp; omega)); intro g3 cap3 w3 hown3 hgrow3; have hb3 : Below v1.heap.size v1 w3 := Below.grown hb2 hgrow3 (by omega) (fun j e => by cases e; exact own_base4 hown2)))
              all_goals
                have hMl : n + 1 + (L.length - n) = (L.take n ++ [x] ++ L.drop n).length := by simp; omega
                have hMc : (cellsOf (L.take n) ++ [.int .i64 x.b.num, .int .i64 x.b.den, .int .i64 x.r.num, .int .i64 x.r.den]) ++ cellsOf (L.drop n) = cellsOf (L.take n ++ [x] ++ L.drop n) := by rw [cellsOf_append, cellsOf_snoc]; rfl
                have hOut : Hid (OutS w3 (.slice (some ⟨g3, 0, none⟩) (n + (L.length - n + 1)) cap3) (L.take n ++ [x] ++ L.drop n)) := by
                  have := OutS.of_own' hown3 hMl hMc (by simp)
                  rw [show n + 1 + (L.length - n) = n + (L.length - n + 1) by omega] at this
                  exact this
                have hNm := Lib.hid (hN.out.put Hx.out hnd.out n hle.out hdr.out)
                have hBe := Lib.hid (HB3.out.trans (hb3.mono HB3.out.size))
                have hlen2 : (L.take n ++ [x] ++ L.drop n).length ≤ k + 1 := by rw [← hMl]; omega
                clear hown3 hgrow3 hb3
                go_wp2
                go_roundw
                case rel => exact ⟨k + 1, _, by omega, by go_num, hNm.out, hlen2, hOut.out, hBe.out⟩
                case measure => simp [intOf]; omega
      · have hnd : Hid (Dom c k) := Hv.out.1 rfl
        clear Hv
        go_wp2
        go_roundw
        case rel => exact ⟨k + 1, L, by omega, by go_num, hN.out.skip hnd.out, by omega, hO1.out, hB1⟩
        case measure => simp [intOf]; omega
    · obtain rfl : k = c.length := by omega
      have hres := hN.done
      subst hres
      obtain ⟨Ao, co, rfl⟩ := hO.form
      go_wp2
      go_ret
      exact ⟨_, rfl, hO, hB⟩
end Go.Proofs.YtaanhddgmiggfaaGreat.Ref
