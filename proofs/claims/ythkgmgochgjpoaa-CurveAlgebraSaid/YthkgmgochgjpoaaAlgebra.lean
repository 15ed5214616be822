/- CurveAlgebra returns true. -/
import Derived.Test.YthkgmgochgjpoaaSg
import Derived.Test.YthkgmgochgjpoaaAwake
import Derived.Test.YthkgmgochgjpoaaEqual
namespace Go.Proofs.Ythkgmgochgjpoaa.Algebra
open Go.RowKit Go.Joins Go.Shelf Go.Sort Num

section
variable {a b : List Buck}
theorem addB_comm (x y : Buck) : addB (x, y) = addB (y, x) := by
  unfold addB; rw [Rat.add_comm x.b, Rat.add_comm x.r]
theorem pairs_comm : normL ((pairsL b a).map addB) = normL ((pairsL a b).map addB) := by
  refine normL_mem_eq fun z => ?_
  simp only [List.mem_map]
  constructor
  · rintro ⟨p, hp, rfl⟩
    obtain ⟨h1, h2⟩ := pairsL_mem.1 hp
    exact ⟨(p.2, p.1), pairsL_mem.2 ⟨h2, h1⟩, addB_comm _ _⟩
  · rintro ⟨p, hp, rfl⟩
    obtain ⟨h1, h2⟩ := pairsL_mem.1 hp
    exact ⟨(p.2, p.1), pairsL_mem.2 ⟨h2, h1⟩, addB_comm _ _⟩
theorem append_comm' : normL (b ++ a) = normL (a ++ b) := normL_mem_eq fun z => by simp [or_comm]
theorem rev_norm : normL a.reverse = normL a := normL_mem_eq fun z => by simp
theorem shift_zero {x : Buck} (h : okv x 0) : shiftB 0 x = x := by
  refine Buck.ext' ?_ (shiftB_r Rat.le_refl h)
  rw [shiftB_b Rat.le_refl h]
  unfold valQ
  rw [Rat.mul_zero, Rat.add_zero]
theorem shift_shift {x : Buck} {s t : Rat} (hs : 0 ≤ s) (ht : 0 ≤ t) (h1 : okv x s) (h2 : okv (shiftB s x) t) (h3 : okv x (s + t)) : shiftB t (shiftB s x) = shiftB (s + t) x := by
  have hst := Rat.add_nonneg hs ht
  refine Buck.ext' ?_ ?_
  · rw [shiftB_b ht h2, shiftB_b hst h3, shiftB_val hs h1, Rat.add_comm]
  · rw [shiftB_r ht h2, shiftB_r hs h1, shiftB_r hst h3]
theorem zero_norm (h : ∀ x ∈ a, okv x 0) : normL (a.map (shiftB 0)) = normL a := by
  have : a.map (shiftB 0) = a := by
    conv => rhs; rw [← List.map_id a]
    exact List.map_congr_left fun x hx => shift_zero (h x hx)
  rw [this]
theorem shift_mono {x y : Buck} {t : Rat} (ht : 0 ≤ t) (h1 : okv x t) (h2 : okv y t) (h : x.le y) : (shiftB t x).le (shiftB t y) := by
  unfold Buck.le
  rw [shiftB_b ht h1, shiftB_b ht h2, shiftB_r ht h1, shiftB_r ht h2]
  exact ⟨le_val h ht, h.2⟩
theorem norm_shift {t : Rat} (ht : 0 ≤ t) (h : ∀ x ∈ a, okv x t) : normL ((normL a).map (shiftB t)) = normL (a.map (shiftB t)) := by
  have n1 := normL_nf ((normL a).map (shiftB t))
  have n2 := normL_nf (a.map (shiftB t))
  have n3 := normL_nf a
  refine n1.uniq n2 (fun x hx => ?_) (fun x hx => ?_)
  · obtain ⟨y, hy, rfl⟩ := List.mem_map.1 (n1.s x hx)
    exact ⟨_, List.mem_map.2 ⟨y, n3.s y hy, rfl⟩, Buck.le_refl _⟩
  · obtain ⟨y, hy, rfl⟩ := List.mem_map.1 (n2.s x hx)
    obtain ⟨z, hz, hle⟩ := n3.c y hy
    exact ⟨_, List.mem_map.2 ⟨z, hz, rfl⟩, shift_mono ht (h z (n3.s z hz)) (h y hy) hle⟩
theorem shift_twice {s t : Rat} (hs : 0 ≤ s) (ht : 0 ≤ t) (h1 : ∀ x ∈ a, okv x s) (h2 : ∀ x ∈ a, okv (shiftB s x) t) (h3 : ∀ x ∈ a, okv x (s + t)) :
    normL ((normL (a.map (shiftB s))).map (shiftB t)) = normL (a.map (shiftB (s + t))) := by
  rw [norm_shift ht (fun x hx => by obtain ⟨y, hy, rfl⟩ := List.mem_map.1 hx; exact h2 y hy), List.map_map]
  exact congrArg normL (List.map_congr_left fun x hx => shift_shift hs ht (h1 x hx) (h2 x hx) (h3 x hx))
end
theorem equal_yes {A B : Option Addr} {ca cb : Nat} {a : List Buck} {w : World} (ha : isC A ca a w) (hb : isC B cb a w) (h1 : a.length ≤ 1048576) :
    Calls Try.prog 25 #[.slice A a.length ca, .slice B a.length cb] w fun e w' => e = .returned (.bool true) ∧ Below w.heap.size w w' := by
  have := equal_any A B ca cb a a h1 h1 w ha hb
  rwa [decide_eq_true rfl] at this

set_option maxRecDepth 100000 in
set_option maxHeartbeats 8000000 in
theorem walk (A : Option Addr) (cap : Nat) (zs : List Int) (B : Option Addr) (cap2 : Nat) (us : List Int) (n m : Int) (w : World) (hz : Nums w A zs) (hu : Nums w B us) (hn0 : 0 ≤ n) (hn1 : n ≤ 65535) (hm0 : 0 ≤ m) (hm1 : m ≤ 65535) :
    Calls Try.prog 7 #[.slice A zs.length cap, .slice B us.length cap2, .int .u16 n, .int .u16 m] w fun e w' => e = .returned (.bool true) ∧ Below w.heap.size w w' := by
  have HS := small_yes A cap zs w w hz (Below.refl _ _)
  have HT : Hid (∀ W : World, Below w.heap.size w W → _) := fun W hb => small_yes B cap2 us w W hu hb
  have HP : Hid (∀ W : World, _) := fun W => point_any n hn0 hn1 W
  have HQ : Hid (∀ W : World, _) := fun W => point_any m hm0 hm1 W
  have HW : Hid (∀ W : World, _) := fun W => Aw.walk W
  have gx := ptQ_gd n
  have gy := ptQ_gd m
  have px := ptQ_nonneg n
  have py := ptQ_nonneg m
  have hca := small_ne zs
  have hcb := small_ne us
  have sga := small_sg zs
  have sgb := small_sg us
  have ha1 := (small_len zs).1
  have ha4 := (small_len zs).2
  have hb1 := (small_len us).1
  have hb4 := (small_len us).2
  clear hz hu
  generalize small zs = a at HS hca sga ha1 ha4
  generalize small us = b at HT hcb sgb hb1 hb4
  generalize ptQ n = x at HP gx px
  generalize ptQ m = y at HQ gy py
  have ha2 : a.length ≤ 32 := by omega
  have hb2 : b.length ≤ 32 := by omega
  have gz := gd_add gx gy
  have pz : 0 ≤ x + y := Rat.add_nonneg px py
  have fx : Fit x := gd_fit gx (by decide) (by decide) (by decide)
  have fy : Fit y := gd_fit gy (by decide) (by decide) (by decide)
  have fz : Fit (x + y) := gd_fit gz (by decide) (by decide) (by decide)
  have na4 : (normL a).length ≤ 4 := Nat.le_trans (normL_len a) ha4
  have nb4 : (normL b).length ≤ 4 := Nat.le_trans (normL_len b) hb4
  have hab : (normL a).length * (normL b).length ≤ 16 := Nat.mul_le_mul na4 nb4
  have hpair : ∀ p ∈ pairsL (normL a) (normL b), oka p ∧ Sg 6400 80 (addB p) := fun p hp => by
    obtain ⟨h1, h2⟩ := pairsL_mem.1 hp
    exact sg_add (sg_norm sga _ h1) (sg_norm sgb _ h2) (by decide) (by decide)
  have hoka : ∀ p ∈ pairsL (normL a) (normL b), oka p := fun p hp => (hpair p hp).1
  have hokb : ∀ p ∈ pairsL (normL b) (normL a), oka p := fun p hp => by
    obtain ⟨h1, h2⟩ := pairsL_mem.1 hp
    exact (sg_add (sg_norm sgb _ h1) (sg_norm sga _ h2) (by decide) (by decide)).1
  have hba : (normL b).length * (normL a).length ≤ 16 := Nat.mul_le_mul nb4 na4
  have hSl : (normL ((pairsL (normL a) (normL b)).map addB)).length ≤ 16 := by
    have := normL_len ((pairsL (normL a) (normL b)).map addB)
    rw [List.length_map, pairs_length] at this
    omega
  have HSum : Hid (∀ (A B : Option Addr) (ca cb : Nat) (W : World), isC A ca a W → isC B cb b W → _) := fun A B ca cb W h1 h2 => sum_yes _ h1 ha1 ha2 h2 hb1 hb2 rfl rfl (by omega) hoka rfl rfl _ _ rfl rfl
  have HSum2 : Hid (∀ (A B : Option Addr) (ca cb : Nat) (W : World), isC A ca b W → isC B cb a W → _) := fun A B ca cb W h1 h2 => sum_yes _ h1 hb1 hb2 h2 ha1 ha2 rfl rfl (by omega) hokb (pairs_comm (a := normL a) (b := normL b)) rfl _ _ rfl rfl
  generalize normL ((pairsL (normL a) (normL b)).map addB) = S at HSum HSum2 hSl
  have hLl : (normL (a ++ b)).length ≤ 8 := by have := normL_len (a ++ b); rw [List.length_append] at this; omega
  have HMin : Hid (∀ (A B : Option Addr) (ca cb : Nat) (W : World), isC A ca a W → isC B cb b W → _) := fun A B ca cb W h1 h2 => min_yes _ h1 ha1 ha2 h2 hb1 hb2 rfl (by omega) rfl _ _ rfl rfl
  have HMin2 : Hid (∀ (A B : Option Addr) (ca cb : Nat) (W : World), isC A ca b W → isC B cb a W → _) := fun A B ca cb W h1 h2 => min_yes _ h1 hb1 hb2 h2 ha1 ha2 (append_comm' (a := a) (b := b)) (by omega) rfl _ _ rfl rfl
  generalize normL (a ++ b) = L at HMin HMin2 hLl
  have okA : ∀ {K : Nat} {t : Rat}, Gd 4 K t → K ≤ 8000 → ∀ z ∈ a, okv z t := fun {K t} g h z hz => sg_ok (sga z hz) g (by omega)
  have g0 : Gd 4 0 (0 : Rat) := ⟨0, by decide, by decide +kernel⟩
  have ok0 := okA g0 (by decide)
  have okx := okA gx (by decide)
  have okz := okA gz (by decide)
  have okxy : ∀ z ∈ a, okv (shiftB x z) y := fun z hz => sg_ok (sg_shift (sga z hz) gx px (by decide)) gy (by decide)
  have sgM := sg_norm (c := a.map (shiftB x)) (fun z hz => by
    obtain ⟨b', hb', rfl⟩ := List.mem_map.1 hz
    exact sg_shift (sga b' hb') gx px (by decide))
  have okMy : ∀ z ∈ normL (a.map (shiftB x)), okv z y := fun z hz => sg_ok (sgM z hz) gy (by decide)
  have hM : normL (a.map (shiftB x)) ≠ [] := normL_ne (by simp [hca])
  have hMl : (normL (a.map (shiftB x))).length ≤ 4 := by have := normL_len (a.map (shiftB x)); rw [List.length_map] at this; omega
  have hNl : (normL (a.map (shiftB (x + y)))).length ≤ 4 := by have := normL_len (a.map (shiftB (x + y))); rw [List.length_map] at this; omega
  have vN := shift_twice px py okx okxy okz
  have HNorm : Hid (∀ (A : Option Addr) (ca : Nat) (W : World), isC A ca a W → _) := fun A ca W hi => norm_yes _ hi ha1 ha2 rfl rfl _ rfl
  have HZero : Hid (∀ (A : Option Addr) (ca : Nat) (W : World), isC A ca a W → _) := fun A ca W hi => shift_yes 0 _ hi ha1 ha2 (by constructor <;> decide) Rat.le_refl ok0 (zero_norm ok0) rfl _ rfl 0 1 rfl rfl
  have HBack : Hid (∀ (A : Option Addr) (ca : Nat) (W : World), isC A ca a.reverse W → _) := fun A ca W hi => norm_yes _ hi (by rw [List.length_reverse]; exact ha1) (by rw [List.length_reverse]; exact ha2) rev_norm rfl a.length (List.length_reverse)
  have HShx : Hid (∀ (A : Option Addr) (ca : Nat) (W : World), isC A ca a W → _) := fun A ca W hi => shift_yes x _ hi ha1 ha2 fx px okx rfl rfl _ rfl _ _ rfl rfl
  have HShz : Hid (∀ (A : Option Addr) (ca : Nat) (W : World), isC A ca a W → _) := fun A ca W hi => shift_yes (x + y) _ hi ha1 ha2 fz pz okz rfl rfl _ rfl _ _ rfl rfl
  have HShy : Hid (∀ (A : Option Addr) (ca : Nat) (W : World), isC A ca (normL (a.map (shiftB x))) W → _) := fun A ca W hi => shift_yes y _ hi (List.length_pos_iff.2 hM) (by omega) fy py okMy vN rfl _ rfl _ _ rfl rfl
  have HAdd : Hid (∀ W : World, _) := fun W => add_yes fx fy fz W
  have HZ0 : Hid (∀ W : World, _) := fun W => num_any 0 1 W
  clear hpair hoka hokb hab hba vN okMy okA ok0 okx okz okxy sgM hM g0
  generalize normL (a.map (shiftB x)) = M at HShx HShy hMl
  generalize normL (a.map (shiftB (x + y))) = N at HShy HShz hNl
  generalize normL a = F at HNorm HZero HBack na4
  clear gx gy gz px py pz fx fy fz sga sgb hcb nb4 hb1 hb2 hb4 hn0 hn1 hm0 hm1
  generalize x + y = z at HAdd HShz
  obtain ⟨i0, hi, hz0, hz1, hz2⟩ := info_parts infoB
  have K := Kept.start w
  go_enter Try.func7, Try.ntmps7
  go_wp2_with fail
  (with_reducible refine HS.mono ?_); rintro e U1 ⟨Aa, ca, rfl, hi, hb⟩
  have HT1 := HT.out _ hb
  replace K := (K.keep hb).add (cl_isC Aa ca a) hi
  clear hi hb HS HT
  go_wp2_with fail
  (with_reducible refine HT1.mono ?_); rintro e U2 ⟨Ab, cb, rfl, hi, hb⟩
  replace K := (K.keep hb).add (cl_isC Ab cb b) hi
  clear hi hb HT1
  go_wp2_with fail
  (with_reducible refine (HP.out _).mono ?_); rintro e U3 ⟨rfl, hb⟩
  replace K := K.keep hb
  clear hb
  go_wp2_with fail
  (with_reducible refine (HQ.out _).mono ?_); rintro e U4 ⟨rfl, hb⟩
  replace K := (K.keep hb).box2 x.num x.den y.num y.den
  clear hb
  go_wp2_with fail
  (with_reducible refine (HSum.out _ _ _ _ _ (K.get 3 rfl) (K.get 2 rfl)).mono ?_); rintro e V1 ⟨AS, cS, rfl, hi, hb⟩
  replace K := (K.keep hb).add (cl_isC AS cS S) hi
  clear hi hb
  go_wp2_with fail
  (with_reducible refine (HSum2.out _ _ _ _ _ (K.get 3 rfl) (K.get 4 rfl)).mono ?_); rintro e V2 ⟨AS2, cS2, rfl, hi, hb⟩
  replace K := (K.keep hb).add (cl_isC AS2 cS2 S) hi
  clear hi hb
  go_wp2_with fail
  (with_reducible refine (HMin.out _ _ _ _ _ (K.get 5 rfl) (K.get 4 rfl)).mono ?_); rintro e V3 ⟨AL, cL, rfl, hi, hb⟩
  replace K := (K.keep hb).add (cl_isC AL cL L) hi
  clear hi hb
  go_wp2_with fail
  (with_reducible refine (HMin2.out _ _ _ _ _ (K.get 5 rfl) (K.get 6 rfl)).mono ?_); rintro e V4 ⟨AL2, cL2, rfl, hi, hb⟩
  replace K := (K.keep hb).add (cl_isC AL2 cL2 L) hi
  clear hi hb
  go_wp2_with fail
  (with_reducible refine (HNorm.out _ _ _ (K.get 7 rfl)).mono ?_); rintro e V5 ⟨AF, cF, rfl, hi, hb⟩
  replace K := (K.keep hb).add (cl_isC AF cF F) hi
  clear hi hb
  go_wp2_with fail
  (with_reducible refine (HZ0.out _).mono ?_); rintro e U5 ⟨rfl, hb⟩
  replace K := K.keep hb.b
  clear hb
  go_wp2_with fail
  (with_reducible refine (HZero.out _ _ _ (K.get 8 rfl)).mono ?_); rintro e V6 ⟨AF2, cF2, rfl, hi, hb⟩
  replace K := (K.keep hb).add (cl_isC AF2 cF2 F) hi
  clear hi hb
  have x0 := (K.get 7 rfl).c0
  have x1 := (K.get 7 rfl).c1
  go_wp2_with fail
  (with_reducible refine (HShx.out _ _ _ (K.get 9 rfl)).mono ?_); rintro e V7 ⟨AM, cM, rfl, hi, hb⟩
  clear x0 x1
  replace K := (K.keep hb).add (cl_isC AM cM M) hi
  clear hi hb
  have y0 := (K.get 7 rfl).c0
  have y1 := (K.get 7 rfl).c1
  go_wp2_with fail
  (with_reducible refine (HShy.out _ _ _ (K.get 0 rfl)).mono ?_); rintro e V8 ⟨AN, cN, rfl, hi, hb⟩
  clear y0 y1
  replace K := (K.keep hb).add (cl_isC AN cN N) hi
  clear hi hb
  have x0 := (K.get 9 rfl).c0
  have x1 := (K.get 9 rfl).c1
  have y0 := (K.get 8 rfl).c0
  have y1 := (K.get 8 rfl).c1
  go_wp2_with fail
  (with_reducible refine (HAdd.out _).mono ?_); rintro e V9 ⟨rfl, hb⟩
  clear x0 x1 y0 y1
  replace K := (K.keep hb).box z.num z.den
  clear hb
  have z0 := (K.get 0 rfl).c0
  have z1 := (K.get 0 rfl).c1
  go_wp2_with fail
  (with_reducible refine (HShz.out _ _ _ (K.get 12 rfl)).mono ?_); rintro e V10 ⟨AN2, cN2, rfl, hi, hb⟩
  clear z0 z1
  replace K := (K.keep hb).add (cl_isC AN2 cN2 N) hi
  clear hi hb
  go_wp2_with fail
  go_loopw [106, 33] (fun i v wr => ∃ k : Nat, k ≤ a.length ∧ i = .int .i64 ↑k ∧ wr.ownsRow V10.heap.size 45 4 v k (cellsOf (a.reverse.take k)) ∧ (v = .slice none 0 0 ↔ k = 0) ∧ Below V10.heap.size V10 wr)
    (fun i _ _ => a.length - (intOf i).toNat)
  case atStart => exact ⟨0, Nat.zero_le _, rfl, World.ownsRow_nil _ _ _ _, by simp, Below.refl _ _⟩
  case round =>
    obtain ⟨k, hk, rfl, hown, hnil, hB⟩ := hrel
    have hform : ∃ g c, u33 = .slice g k c := by
      rcases hown.2 with ⟨e, e2⟩ | ⟨g, c, _, e, _⟩
      · exact ⟨none, 0, by rw [e, e2]⟩
      · exact ⟨_, c, e⟩
    obtain ⟨g, cg, rfl⟩ := hform
    by_cases hlt : k < a.length
    · obtain ⟨j, hj⟩ : ∃ j, a.length = k + j + 1 := ⟨a.length - k - 1, by omega⟩
      have hx : a[j]? = some (a[j]'(by omega)) := List.getElem?_eq_getElem (by omega)
      have hrv : a.reverse[k]? = a[j]? := by rw [List.getElem?_reverse hlt]; congr 1; omega
      obtain ⟨x', hxe⟩ : ∃ x', a[j]'(by omega) = x' := ⟨_, rfl⟩
      rw [hxe] at hx
      rw [hx] at hrv
      have hts := Lib.hid (take_succ' hrv)
      obtain ⟨ga, oa, hA, hgl, hra⟩ := (K.get 13 rfl).cells hca
      subst hA
      obtain ⟨c0, c1, c2, c3⟩ := hra.below hB hgl j x' hx
      have hsub : (a.length : Int) - 1 - ↑k = ↑j := by omega
      have hlj : j < a.length := by omega
      have hone := one_cells x'
      simp only [Buck.cells] at hone
      have hsn := Lib.hid (cellsOf_snoc (a.reverse.take k) x')
      have own1 := hown.alloc (.cells #[.int .i64 x'.b.num, .int .i64 x'.b.den, .int .i64 x'.r.num, .int .i64 x'.r.den] 45)
      have hB3 := hB.alloc hB.size (.cells #[.int .i64 x'.b.num, .int .i64 x'.b.den, .int .i64 x'.r.num, .int .i64 x'.r.den] 45)
      have hsz := hB.size
      have Hj := Lib.hid hj
      clear hj hx hxe hrv hnil
      go_wp2_with (at_builtin; refine wpList_append_own _ rfl _ _ 25 rfl V10.heap.size 45 i0 _ 4 32 Try.underlying25 hi hz0 hz1 hz2 rfl (by decide) _ _ _ rfl own1 ⟨wr.heap.size, 0, none⟩ 1 1 [.int .i64 x'.b.num, .int .i64 x'.b.den, .int .i64 x'.r.num, .int .i64 x'.r.den] rfl rfl (World.news_of_block (heap_alloc_new wr (.cells #[.int .i64 x'.b.num, .int .i64 x'.b.den, .int .i64 x'.r.num, .int .i64 x'.r.den] 45))) hone (by unfold maxLen; omega) (by omega) (by simp; omega) ?_; intro v' w3 hown' hgrow _; obtain ⟨g', cap3, rfl⟩ := ownsRow_succ hown')
      have hbl2 : ∀ r, (Value.slice g k cg).ownBlock = some r → V10.heap.size ≤ r := fun r e => by
        rcases own1.2 with ⟨e1, _⟩ | ⟨g4, c4, _, e1, h4, _⟩
        · rw [e1] at e; cases e
        · rw [e1] at e; cases e; exact h4
      have hB4 := hB3.grown hgrow (by simp; omega) hbl2
      go_roundw
      case rel => exact ⟨k + 1, by omega, by go_num, by rw [hts.out, hsn.out]; exact hown', by simp, hB4⟩
      case measure => simp [intOf]; omega
    · obtain rfl : k = a.length := by omega
      have hO : isC g cg a.reverse wr := by
        refine isC.of_own (base := V10.heap.size) ?_
        rw [List.length_reverse]
        rw [List.take_of_length_le (by simp)] at hown
        refine ⟨by rw [List.length_reverse]; exact hown, ?_⟩
        rw [hnil]
        simp
      replace K := K.keep hB
      have hN := HBack.out _ _ _ hO
      clear hown hnil hB hO hlt hk
      go_wp2_with fail
      (with_reducible refine (hN).mono ?_); rintro e V11 ⟨AB, cB, rfl, hi, hb⟩
      replace K := (K.keep hb).add (cl_isC AB cB F) hi
      clear hi hb
      clear hN
      have hN := equal_yes (K.get 10 rfl) (K.get 9 rfl) (by omega)
      go_wp2_with fail
      (with_reducible refine hN.mono ?_); rintro e Z ⟨rfl, hb⟩
      replace K := K.keep hb
      clear hN hb
      have hN := equal_yes (K.get 8 rfl) (K.get 7 rfl) (by omega)
      go_wp2_with fail
      (with_reducible refine hN.mono ?_); rintro e Z ⟨rfl, hb⟩
      replace K := K.keep hb
      clear hN hb
      have hN := equal_yes (K.get 6 rfl) (K.get 5 rfl) (by omega)
      go_wp2_with fail
      (with_reducible refine hN.mono ?_); rintro e Z ⟨rfl, hb⟩
      replace K := K.keep hb
      clear hN hb
      have hN := equal_yes (K.get 3 rfl) (K.get 1 rfl) (by omega)
      go_wp2_with fail
      (with_reducible refine hN.mono ?_); rintro e Z ⟨rfl, hb⟩
      replace K := K.keep hb
      clear hN hb
      have hN := equal_yes (K.get 6 rfl) (K.get 0 rfl) (by omega)
      go_wp2_with fail
      (with_reducible refine hN.mono ?_); rintro e Z ⟨rfl, hb⟩
      replace K := K.keep hb
      clear hN hb
      go_wp2_with fail
      (with_reducible refine (HW.out _).mono ?_); rintro e Z' ⟨rfl, hb⟩
      have hB := Lib.hid (K.keep hb).b
      clear K hb
      go_wp2
      go_ret
      exact ⟨rfl, hB.out⟩
end Go.Proofs.Ythkgmgochgjpoaa.Algebra
