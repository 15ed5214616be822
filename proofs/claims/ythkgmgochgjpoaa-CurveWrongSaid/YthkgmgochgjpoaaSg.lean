/- Buckets on a grid: what fits. -/
import Derived.Test.YthkgmgochgjpoaaSmall
namespace Go.Proofs.Ythkgmgochgjpoaa
open Go.RowKit Go.Joins Go.Shelf Go.Sort Num

/-- A bucket whose burst is on the grid of 1/32, whose rate on that of 1/8. -/
structure Sg (B R : Nat) (x : Buck) : Prop where
  b : Gd 32 B x.b
  r : Gd 8 R x.r
theorem Sm.sg {x : Buck} (h : Sm x) : Sg 3200 40 x := ⟨gd_scale (D := 1) 32 (by decide) h.b, h.r⟩
theorem small_sg (zs : List Int) : ∀ x ∈ small zs, Sg 3200 40 x := fun x hx => (small_sm zs x hx).sg
theorem small_ne (zs : List Int) : small zs ≠ [] := fun h => by have := (small_len zs).1; rw [h] at this; simp at this
theorem sg_mul {B R K : Nat} {x : Buck} (h : Sg B R x) {t : Rat} (ht : Gd 4 K t) : Gd 32 (R * K) (x.r * t) := gd_mul (D := 8) (E := 4) h.r ht
theorem sg_val {B R K : Nat} {x : Buck} (h : Sg B R x) {t : Rat} (ht : Gd 4 K t) : Gd 32 (B + R * K) (valQ x t) := gd_add h.b (sg_mul h ht)
theorem sg_ok {B R K : Nat} {x : Buck} (h : Sg B R x) {t : Rat} (ht : Gd 4 K t) (hk : B + R * K ≤ 1073741824) : okv x t :=
  ⟨gd_fit (sg_mul h ht) (by decide) (by decide) (by omega), gd_fit (sg_val h ht) (by decide) (by decide) hk⟩
theorem sg_min {B R K : Nat} {c : List Buck} (hc : c ≠ []) (h : ∀ x ∈ c, Sg B R x) {t : Rat} (ht : Gd 4 K t) : Gd 32 (B + R * K) (minV c t) := by
  obtain ⟨x, hx, e⟩ := minV_at hc t
  rw [e]; exact sg_val (h x hx) ht
theorem sg_add {B R C S : Nat} {p : Buck × Buck} (h1 : Sg B R p.1) (h2 : Sg C S p.2) (hb : B + C ≤ 1073741824) (hr : R + S ≤ 1073741824) : oka p ∧ Sg (B + C) (R + S) (addB p) := by
  have g1 := gd_add h1.b h2.b
  have g2 := gd_add h1.r h2.r
  have hok : oka p := ⟨gd_fit g1 (by decide) (by decide) hb, gd_fit g2 (by decide) (by decide) hr⟩
  refine ⟨hok, ?_, ?_⟩
  · unfold addB; rw [mk_b (add_h hok)]; exact g1
  · unfold addB; rw [mk_r (add_h hok)]; exact g2
theorem sg_shift {B R K : Nat} {x : Buck} (h : Sg B R x) {t : Rat} (ht : Gd 4 K t) (ht0 : 0 ≤ t) (hk : B + R * K ≤ 1073741824) : Sg (B + R * K) R (shiftB t x) := by
  have hok := sg_ok h ht hk
  exact ⟨by rw [shiftB_b ht0 hok]; exact sg_val h ht, by rw [shiftB_r ht0 hok]; exact h.r⟩
theorem sg_norm {B R : Nat} {c : List Buck} (h : ∀ x ∈ c, Sg B R x) : ∀ x ∈ normL c, Sg B R x := fun x hx => h x ((normL_nf c).s x hx)
theorem add_yes {r s : Rat} (hr : Fit r) (hs : Fit s) (h : Fit (r + s)) (w : World) : Calls Try.prog 11 #[.agg #[.int .i64 r.num, .int .i64 r.den], .agg #[.int .i64 s.num, .int .i64 s.den]] w fun e w' => e = .returned (.tuple #[.agg #[.int .i64 (r + s).num, .int .i64 (r + s).den], .int .i64 0]) ∧ Below w.heap.size w w' := by
  have := add_r hr hs w
  rw [ofR_yes h] at this
  exact this
theorem sub_yes {r s : Rat} (hr : Fit r) (hs : Fit s) (h : Fit (r - s)) (w : World) : Calls Try.prog 19 #[.agg #[.int .i64 r.num, .int .i64 r.den], .agg #[.int .i64 s.num, .int .i64 s.den]] w fun e w' => e = .returned (.tuple #[.agg #[.int .i64 (r - s).num, .int .i64 (r - s).den], .int .i64 0]) ∧ Below w.heap.size w w' := by
  have := sub_r hr hs w
  rw [ofR_yes h] at this
  exact this
theorem mul_yes {r s : Rat} (hr : Fit r) (hs : Fit s) (h : Fit (r * s)) (w : World) : Calls Try.prog 21 #[.agg #[.int .i64 r.num, .int .i64 r.den], .agg #[.int .i64 s.num, .int .i64 s.den]] w fun e w' => e = .returned (.tuple #[.agg #[.int .i64 (r * s).num, .int .i64 (r * s).den], .int .i64 0]) ∧ Below w.heap.size w w' := by
  have := mul_r hr hs w
  rw [ofR_yes h] at this
  exact this
theorem div_yes {r s : Rat} (hr : Fit r) (hs : Fit s) (h0 : s ≠ 0) (h : Fit (r / s)) (w : World) : Calls Try.prog 23 #[.agg #[.int .i64 r.num, .int .i64 r.den], .agg #[.int .i64 s.num, .int .i64 s.den]] w fun e w' => e = .returned (.tuple #[.agg #[.int .i64 (r / s).num, .int .i64 (r / s).den], .int .i64 0]) ∧ Below w.heap.size w w' := by
  have := div_r hr hs w h0
  rw [ofR_yes h] at this
  exact this
theorem _root_.Go.Proofs.Ythkgmgochgjpoaa.Kept.box {w W : World} {l : List (World → Prop)} (k : Kept w l W) (n d : Int) : Kept w (isR W.heap.size n d :: l) (W.alloc (.cells #[.int .i64 n, .int .i64 d] 28)) :=
  (k.alloc _).add (cl_isR W.heap.size n d) (Has.new W n d 28)
theorem _root_.Go.Proofs.Ythkgmgochgjpoaa.Kept.box2 {w W : World} {l : List (World → Prop)} (k : Kept w l W) (n d m e : Int) : Kept w (isR (W.heap.size + 1) m e :: isR W.heap.size n d :: l) ((W.alloc (.cells #[.int .i64 n, .int .i64 d] 28)).alloc (.cells #[.int .i64 m, .int .i64 e] 28)) := by
  have := (k.box n d).box m e
  rwa [World.size_alloc] at this
/-- What a law is handed: bytes. -/
structure Nums (W : World) (A : Option Addr) (zs : List Int) : Prop where
  row : ByRow W A zs
  len : zs.length ≤ 9223372036854775807
  bd : ∀ z ∈ zs, 0 ≤ z ∧ z ≤ 255
theorem Nums.keep {W W' : World} {A : Option Addr} {zs : List Int} (h : Nums W A zs) (hb : Below W.heap.size W W') : Nums W' A zs := ⟨h.row.keep hb, h.len, h.bd⟩
theorem small_yes (A : Option Addr) (cap : Nat) (zs : List Int) (w W : World) (h : Nums w A zs) (hb : Below w.heap.size w W) :
    Calls Try.prog 9 #[.slice A zs.length cap] W fun e w' => ∃ A' c', e = .returned (.slice A' (small zs).length c') ∧ isC A' c' (small zs) w' ∧ Below W.heap.size W w' :=
  small_any A cap zs h.bd h.len W (h.keep hb).row
end Go.Proofs.Ythkgmgochgjpoaa
