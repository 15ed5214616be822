/- Merged texts: CSvBad. -/
import Derived.Test.YtbncfknjgldcbaaGreatM20
import Derived.Test.YtbncfknjgldcbaaGreatM29
import Derived.Test.YtbncfknjgldcbaaGreatM30
import Derived.Test.YtbncfknjgldcbaaGreatM32
import Derived.Test.YtbncfknjgldcbaaGreatM26
import Derived.Test.YtbncfknjgldcbaaGreatM13
/- Conforms of whatever arguments: the program and the reference answer the same. -/
namespace Go.Proofs.YtbncfknjgldcbaaGreat
open Go.RowKit Go.Joins Go.Shelf Go.Sort Num

set_option maxRecDepth 100000 in
set_option maxHeartbeats 2000000 in
theorem rconf_bad (A B : Option Addr) (ca cb : Nat) (c : List Bk) (hlen : c.length ≤ 1048576) (hbd : ∀ x ∈ c, x.bd64) (l : List Sn) (hbl : l.length ≤ 4000 → ∀ x ∈ l, x.bd64) (w : World) (hC : SlR w.heap.size w (.slice A c.length ca) c) (hS : isS B l w) (hbad : (valC c && frB l) = false) :
    Calls Tryz.prog 35 #[.slice A c.length ca, .slice B l.length cb] w fun e w' => e = .returned (.tuple #[.bool false, .int .i64 2]) ∧ Below w.heap.size w w' := by
  have HV := Ref.valid_c A ca c hlen hbd w hC
  have HF : Hid (∀ W : World, Below w.heap.size w W → _) := fun W hW => rframes_any B cb l hbl W (cl_isS B l w W hS hW)
  generalize valC c = x at HV hbad
  generalize frB l = y at HF hbad
  clear hC hS hbd hbl
  go_enter Tryz.func35, Tryz.ntmps35
  go_wp2_with fail
  (with_reducible refine HV.mono ?_); rintro _ w1 ⟨rfl, hb1⟩
  cases x
  · go_wp2_with fail
    go_ret2
    exact ⟨rfl, hb1⟩
  · obtain rfl : y = false := by simpa using hbad
    go_wp2_with fail
    (with_reducible refine (HF.out w1 hb1).mono ?_); rintro _ w2 ⟨rfl, hb2⟩
    have hB2 := hb1.trans (hb2.mono hb1.size)
    clear hb1 hb2 HF
    go_wp2_with fail
    go_ret2
    exact ⟨rfl, hB2⟩

theorem ok_buck3 {x : Bk} (h : x.ok = true) : ∃ y : Buck, y.raw = x := by
  unfold Bk.ok amtB at h
  simp only [Bool.and_eq_true, decide_eq_true_eq] at h
  obtain ⟨⟨h1, h2⟩, h3, h4⟩ := h
  obtain ⟨r, e1, e2, hr⟩ := r_of_vld h2
  obtain ⟨s, e3, e4, hs⟩ := r_of_vld h4
  refine ⟨⟨r, s, hr, hs, Rat.num_nonneg.1 (by omega), Rat.num_nonneg.1 (by omega)⟩, ?_⟩
  show (⟨r.num, (r.den : Int), s.num, (s.den : Int)⟩ : Bk) = x
  rw [e1, e2, e3, e4]
theorem ok_bucks3 : ∀ {c : List Bk}, (∀ x ∈ c, x.ok = true) → ∃ d : List Buck, c = d.map Buck.raw
  | [], _ => ⟨[], rfl⟩
  | x :: c, h => by
    obtain ⟨y, hy⟩ := ok_buck3 (h x List.mem_cons_self)
    obtain ⟨d, hd⟩ := ok_bucks3 (c := c) fun z hz => h z (List.mem_cons_of_mem _ hz)
    exact ⟨y :: d, by rw [hd, ← hy]; rfl⟩
theorem val_bucks3 {c : List Bk} (h : valC c = true) : ∃ d : List Buck, c = d.map Buck.raw ∧ 1 ≤ d.length ∧ d.length ≤ 32 := by
  unfold valC at h
  simp only [Bool.and_eq_true, decide_eq_true_eq, List.all_eq_true] at h
  obtain ⟨d, rfl⟩ := ok_bucks3 h.2
  rw [List.length_map] at h
  exact ⟨d, rfl, h.1.1, h.1.2⟩
theorem confP_some (c : List Buck) (l : List Sn) : ∃ r x, ConfP c l r x := by
  by_cases h : ConfBad c l
  · exact ⟨false, 3, .inl ⟨h, rfl, rfl⟩⟩
  · by_cases h2 : ConfAll c l
    · exact ⟨true, 0, .inr ⟨h, rfl, by simp [h2]⟩⟩
    · exact ⟨false, 0, .inr ⟨h, rfl, by simp [h2]⟩⟩
/-- Both answer the same. -/
theorem conf_pair (A B : Option Addr) (ca cb : Nat) (c : List Bk) (hlen : c.length ≤ 1048576) (hbd : ∀ x ∈ c, x.bd64) (l : List Sn) (hbl : ∀ x ∈ l, x.bd64) (hl : l.length ≤ 60 ∨ 4000 < l.length) (w : World) (hC : SlR w.heap.size w (.slice A c.length ca) c) (hS : isS B l w) :
    ∃ (r : Bool) (x : Int), (∀ W : World, Below w.heap.size w W → Calls Tryz.prog 34 #[.slice A c.length ca, .slice B l.length cb] W fun e w' => e = .returned (.tuple #[.bool r, .int .i64 x]) ∧ Below W.heap.size W w') ∧
      (∀ W : World, Below w.heap.size w W → Calls Tryz.prog 35 #[.slice A c.length ca, .slice B l.length cb] W fun e w' => e = .returned (.tuple #[.bool r, .int .i64 x]) ∧ Below W.heap.size W w') := by
  cases hbad : (valC c && frB l) with
  | false =>
    exact ⟨false, 2, fun W hW => callsIn_wide.1 (conf_bad A B ca cb c hlen hbd l (fun _ => hbl) W ((hC.below hW (Nat.le_refl _)).more hW.size) (cl_isS B l w W hS hW) hbad),
      fun W hW => rconf_bad A B ca cb c hlen hbd l (fun _ => hbl) W ((hC.below hW (Nat.le_refl _)).more hW.size) (cl_isS B l w W hS hW) hbad⟩
  | true =>
    rw [Bool.and_eq_true] at hbad
    obtain ⟨hv, hf⟩ := hbad
    obtain ⟨d, rfl, h1, h2⟩ := val_bucks3 hv
    unfold frB at hf
    rw [Bool.and_eq_true, decide_eq_true_eq] at hf
    obtain ⟨r, x, hrx⟩ := confP_some d l
    rw [List.length_map] at hC ⊢
    have hI : isC A ca d w := slR_iff.1 hC
    refine ⟨r, x, fun W hW => ?_, fun W hW => ?_⟩
    · refine (callsIn_wide.1 (conf_any A B ca cb d h1 h2 l hbl hf.1 hf.2 W (cl_isC A ca d w W hI hW) (cl_isS B l w W hS hW))).mono ?_
      rintro e w' ⟨⟨r', x', rfl, h⟩, hb⟩
      obtain ⟨rfl, rfl⟩ := h.eq hrx
      exact ⟨rfl, hb⟩
    · refine (rconf_any A B ca cb d h1 h2 l hbl (by omega) hf.2 W (cl_isC A ca d w W hI hW) (cl_isS B l w W hS hW)).mono ?_
      rintro e w' ⟨⟨r', x', rfl, h⟩, hb⟩
      obtain ⟨rfl, rfl⟩ := h.eq hrx
      exact ⟨rfl, hb⟩
theorem serveL_bd {slow delay : Int} (hs : 0 ≤ slow ∧ slow ≤ 16) (hd : 0 ≤ delay ∧ delay ≤ 1000) {l : List Sn} (hok : frOk 0 l = true) (hlen : l.length ≤ 4000) : ∀ z ∈ serveL slow delay 0 l, I64 z := by
  intro z hz
  obtain ⟨k, hk⟩ := List.getElem?_of_mem hz
  have hkl : k < l.length := by
    have := (List.getElem?_eq_some_iff.1 hk).1
    rwa [serveL_len] at this
  have h5 := end_get slow delay (e := 0) (List.getElem?_eq_getElem hkl)
  rw [hk] at h5
  cases h5
  obtain ⟨h6, h7⟩ := end_bd hs hd hok (k + 1)
  constructor <;> omega
/-- Both serve alike. -/
theorem serve_pair (A : Option Addr) (cap : Nat) (l : List Sn) (hbd : ∀ x ∈ l, x.bd64) (slow delay : Int) (hs : I64 slow) (hd : I64 delay) (w : World) (hI : isS A l w) :
    ∃ (x : Int) (zs : List Int), zs.length ≤ 1048576 ∧ (∀ z ∈ zs, I64 z) ∧ (∀ W : World, Below w.heap.size w W → Calls Tryz.prog 36 #[.slice A l.length cap, .int .i64 slow, .int .i64 delay] W fun e w' => ∃ B cb, e = .returned (.tuple #[.slice B zs.length cb, .int .i64 x]) ∧ isN B zs w' ∧ Below W.heap.size W w') ∧
      (∀ W : World, Below w.heap.size w W → Calls Tryz.prog 37 #[.slice A l.length cap, .int .i64 slow, .int .i64 delay] W fun e w' => ∃ B cb, e = .returned (.tuple #[.slice B zs.length cb, .int .i64 x]) ∧ isN B zs w' ∧ Below W.heap.size W w') := by
  by_cases hok : okS l slow delay
  · have hok' := hok
    unfold okS frB at hok'
    rw [Bool.and_eq_true, decide_eq_true_eq] at hok'
    obtain ⟨⟨h1, h2⟩, h3, h4⟩ := hok'
    refine ⟨0, serveL slow delay 0 l, by rw [serveL_len]; omega, serveL_bd (by omega) h4 h2 h1, fun W hW => ?_, fun W hW => ?_⟩
    · refine (serve_any A cap l (fun _ => hbd) slow delay hs hd W (cl_isS A l w W hI hW)).mono ?_
      rintro e w' ⟨ha, -, hb⟩
      obtain ⟨B, cb, rfl, hn⟩ := ha hok
      exact ⟨B, cb, by rw [serveL_len], hn, hb⟩
    · refine (rserve_any A cap l (fun _ => hbd) slow delay hs hd W (cl_isS A l w W hI hW)).mono ?_
      rintro e w' ⟨ha, -, hb⟩
      obtain ⟨B, cb, rfl, hn⟩ := ha hok
      exact ⟨B, cb, by rw [serveL_len], hn, hb⟩
  · refine ⟨2, [], by simp, by simp, fun W hW => ?_, fun W hW => ?_⟩
    · refine (serve_any A cap l (fun _ => hbd) slow delay hs hd W (cl_isS A l w W hI hW)).mono ?_
      rintro e w' ⟨-, ha, hb⟩
      exact ⟨none, 0, ha hok, fun h => absurd rfl h, hb⟩
    · refine (rserve_any A cap l (fun _ => hbd) slow delay hs hd W (cl_isS A l w W hI hW)).mono ?_
      rintro e w' ⟨-, ha, hb⟩
      exact ⟨none, 0, ha hok, fun h => absurd rfl h, hb⟩
end Go.Proofs.YtbncfknjgldcbaaGreat
