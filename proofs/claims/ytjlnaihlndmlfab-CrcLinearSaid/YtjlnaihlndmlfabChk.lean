/- The contracts of Check and of the law package's Bytes. -/
import Derived.Test.YtjlnaihlndmlfabApp
import Derived.Laws.BytesString
namespace Go.Proofs.Ytjlnaihlndmlfab
open Go.RowKit Go.Joins

/-- Bytes as a string. -/
def bstr (l : List (BitVec 8)) : ByteArray := ⟨(l.map fun b => UInt8.ofBitVec b).toArray⟩
theorem push_all (l : List (BitVec 8)) : ∀ s : ByteArray, (l.map fun b => (b.toNat : Int)).foldl (fun r n => r.push (UInt8.ofNat n.toNat)) s = ⟨s.data ++ (l.map fun b => UInt8.ofBitVec b).toArray⟩ := by
  induction l with
  | nil => intro s; simp
  | cons b l ih =>
    intro s
    rw [List.map_cons, List.foldl_cons, ih]
    simp [ByteArray.push]
theorem str_run {A : Option Addr} {l : List (BitVec 8)} {W : World} (cap : Nat) (h : isB A l W) :
    (convert 22 9 (.slice A l.length cap)).run Try.prog W = .ok (.string (bstr l)) W := by
  rw [run_convert_bytes_string W 22 9 5 A l.length cap Try.underlying22 Try.underlying5 Try.underlying9]
  cases A with
  | none =>
    have hl : l = [] := by
      by_cases hl : l = []
      · exact hl
      · obtain ⟨_, _, e, _⟩ := h hl; cases e
    subst hl
    exact rfl
  | some a =>
    have hc : (loadCells a l.length).run Try.prog W = .ok ((l.map fun b => (b.toNat : Int)).map (Value.int .u8)).toArray W := by
      have := run_loadCells_list (P := Try.prog) W a (cellsB l) (fun j v hv => by
        have hne : l.length ≠ 0 := by
          intro e
          rw [List.eq_nil_of_length_eq_zero e] at hv
          simp [cellsB] at hv
        obtain ⟨ad, e, hr⟩ := h.news hne
        cases e
        exact hr j v hv)
      rw [cellsB_len] at this
      rw [this, List.map_map]; rfl
    rw [run_bytesToString W _ _ cap _ hc, push_all]
    simp [bstr]
theorem str_eq (l m : List (BitVec 8)) : ((bstr l).toList == (bstr m).toList) = decide (l = m) := by
  rw [Bool.eq_iff_iff, beq_iff_eq, decide_eq_true_iff, ByteArray.toList_eq, ByteArray.toList_eq]
  show (l.map fun b => UInt8.ofBitVec b) = (m.map fun b => UInt8.ofBitVec b) ↔ l = m
  exact List.map_inj_right (fun a b h => by simpa using h)
theorem isB.take {A : Option Addr} {l : List (BitVec 8)} {W : World} (h : isB A l W) (n : Nat) : isB A (l.take n) W := fun hne => by
  obtain ⟨b, off, e, hb, hr⟩ := h (by intro e; rw [e] at hne; simp at hne)
  refine ⟨b, off, e, hb, fun k z hk => hr k z ?_⟩
  rw [List.getElem?_take] at hk
  split at hk
  · exact hk
  · cases hk

/-- What Check returns. -/
def ck (l : List (BitVec 8)) : List (BitVec 8) × Int := if 4 ≤ l.length ∧ app (l.take (l.length - 4)) = l then (l.take (l.length - 4), 0) else ([], 40)
def CkPost (l : List (BitVec 8)) (w : World) (e : Ending) (w' : World) : Prop :=
  ∃ B c, e = .returned (.tuple #[.slice B (ck l).1.length c, .int .i64 (ck l).2]) ∧ isB B (ck l).1 w' ∧ Below w.heap.size w w'

set_option maxRecDepth 100000 in
set_option maxHeartbeats 1000000 in
theorem check_any (A : Option Addr) (cap : Nat) (l : List (BitVec 8)) (hlen : l.length ≤ 1048576) (hcap : l.length ≤ cap) (w : World) (hl : isB A l w) :
    Calls Try.prog 11 #[.slice A l.length cap] w (CkPost l w) := by
  by_cases h4 : 4 ≤ l.length
  · have hl' := hl.take (l.length - 4)
    have hn : (l.take (l.length - 4)).length = l.length - 4 := by rw [List.length_take]; omega
    obtain ⟨d, hd⟩ : ∃ d, l.take (l.length - 4) = d := ⟨_, rfl⟩
    rw [hd] at hl' hn
    obtain ⟨n, hn'⟩ : ∃ n, l.length - 4 = n := ⟨_, rfl⟩
    obtain ⟨b, off, rfl, hbl, hr⟩ := hl (by intro e; rw [e] at h4; simp at h4)
    have HA : Hid (∀ W, isB _ d W → _) := fun W hi => append_any (some ⟨b, off, none⟩) cap d (by omega) W hi
    rw [hn, hn'] at HA
    have HL := Lib.hid hl
    have Hck : Hid (ck l = if app d = l then (d, 0) else ([], 40)) := by
      unfold Hid ck; rw [hd]; simp [h4]
    have hL : l.length = n + 4 := by omega
    have hs := fun W hi => str_run (A := some ⟨b, off, none⟩) (l := l) (W := W) cap hi
    rw [hL] at hs ⊢
    have HS := Lib.hid hs
    have HD := Lib.hid hd
    have hnc : n + 4 ≤ cap := by omega
    have hnb : n + 4 ≤ 1048576 := by omega
    have HLn := Lib.hid hL
    clear hr hl hd hn hn' hs h4 hlen hcap hL
    go_enter Try.func11, Try.ntmps11
    go_wp2_with fail
    (with_reducible refine (HA.out _ hl').mono ?_); rintro e w1 ⟨B, c, rfl, hi, hc, hb⟩
    have h1 := HS.out w1 (HL.out.keep hb)
    have h2 := str_run (A := B) (l := app d) (W := w1) c hi
    have ha : (app d).length = n + 4 := by rw [app_len, ← HD.out, List.length_take, HLn.out]; omega
    rw [ha] at h2
    have hq := str_eq (app d) l
    by_cases he : app d = l
    · rw [decide_eq_true he] at hq
      have Hck2 : Hid (ck l = (d, 0)) := by unfold Hid; rw [Hck.out, if_pos he]
      have hdl : Hid (d.length = n) := by unfold Hid; rw [app_len] at ha; omega
      have hid : Hid (isB B d w1) := by
        unfold Hid
        have := hi.take d.length
        rwa [app, List.take_left] at this
      clear he ha hi Hck
      go_wp2_with fail
      go_ret2
      exact ⟨B, c, by rw [Hck2.out, hdl.out]; rfl, by rw [Hck2.out]; exact hid.out, hb⟩
    · rw [decide_eq_false he] at hq
      have Hck2 : Hid (ck l = ([], 40)) := by unfold Hid; rw [Hck.out, if_neg he]
      clear he ha hi Hck
      go_wp2_with fail
      go_ret2
      exact ⟨none, 0, by rw [Hck2.out]; rfl, by rw [Hck2.out]; exact isB.nil _ _, hb⟩
  · have Hck : Hid (ck l = ([], 40)) := by unfold Hid ck; rw [if_neg (fun h => h4 h.1)]
    have hlt : l.length < 4 := by omega
    generalize l.length = n at hlt hlen hcap ⊢
    clear h4 hl
    go_enter Try.func11, Try.ntmps11
    go_wp2_with fail
    go_ret2
    exact ⟨none, 0, by rw [Hck.out]; rfl, by rw [Hck.out]; exact isB.nil _ _, Below.refl _ _⟩

set_option maxRecDepth 100000 in
theorem bytes_any (A B : Option Addr) (ca cb : Nat) (l m : List (BitVec 8)) (w : World) (hl : isB A l w) (hm : isB B m w) :
    Calls Try.prog 13 #[.slice A l.length ca, .slice B m.length cb] w fun e w' => e = .returned (.bool (decide (l = m))) ∧ w' = w := by
  have h1 := str_run ca hl
  have h2 := str_run cb hm
  have hq := str_eq l m
  generalize decide (l = m) = q at hq ⊢
  go_enter Try.func13, Try.ntmps13
  go_wp2_with fail
  go_ret
  exact ⟨rfl, rfl⟩
end Go.Proofs.Ytjlnaihlndmlfab
