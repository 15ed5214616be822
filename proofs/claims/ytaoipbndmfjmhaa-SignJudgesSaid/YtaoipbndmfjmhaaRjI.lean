/- SignJudges: what its walk knows of its callees, whatever comes in. -/
import Derived.Test.YtaoipbndmfjmhaaRjA
import Derived.Test.YtaoipbndmfjmhaaRjD
import Derived.Test.YtaoipbndmfjmhaaRjH
import Derived.Test.YtaoipbndmfjmhaaRjW
import Derived.Test.YtaoipbndmfjmhaaDecOk
import Derived.Test.YtaoipbndmfjmhaaSame
import Derived.Laws.BytesString
namespace Go.Proofs.Ytaoipbndmfjmhaa
open Go.RowKit Go.Joins
/-- Bytes as a string. -/
def bstr (l : List (BitVec 8)) : ByteArray := ⟨(l.map fun b => UInt8.ofBitVec b).toArray⟩
theorem push_all (l : List (BitVec 8)) : ∀ s : ByteArray, (l.map fun b => (b.toNat : Int)).foldl (fun r n => r.push (UInt8.ofNat n.toNat)) s = ⟨s.data ++ (l.map fun b => UInt8.ofBitVec b).toArray⟩ := by
  induction l with
  | nil => intro s; simp
  | cons b l ih =>
    intro s
    rw [List.map_cons, List.foldl_cons, ih]
    simp [ByteArray.push]
theorem str_run {A : Option Addr} {l : List (BitVec 8)} {W : World} (cap : Nat) (h : isB A l W) :
    (convert 42 9 (.slice A l.length cap)).run Try.prog W = .ok (.string (bstr l)) W := by
  rw [run_convert_bytes_string W 42 9 5 A l.length cap Try.underlying42 Try.underlying5 Try.underlying9]
  cases A with
  | none =>
    have hl : l = [] := by
      by_cases hl : l = []
      · exact hl
      · obtain ⟨_, _, e, _⟩ := h hl; cases e
    subst hl
    exact rfl
  | some a =>
    have hc : (loadCells a l.length).run Try.prog W = .ok ((l.map fun b => (b.toNat : Int)).map (Value.int .u8)).toArray W := by
      have := run_loadCells_list (P := Try.prog) W a (cellsB l) (fun j v hv => by
        have hne : l.length ≠ 0 := by
          intro e
          rw [List.eq_nil_of_length_eq_zero e] at hv
          simp [cellsB] at hv
        obtain ⟨ad, e, hr⟩ := h.news hne
        cases e
        exact hr j v hv)
      rw [cellsB_len] at this
      rw [this, List.map_map]; rfl
    rw [run_bytesToString W _ _ cap _ hc, push_all]
    simp [bstr]

/-- A load of a whole row, in a walk over a class of worlds. -/
theorem quiet_load_row {P : Program} {C : World → Prop} {K : Act → Prop} {a : Act} {o : Oper} (ty : TypeId) (x : Operand) (ho : o.op = .load ty x)
    (g : Nat) (hx : a.eval x = .pointer (some ⟨g, 0, none⟩)) (t : TypeId) (cs : Array Value) (fr : Nat × Nat) (d : TypeDesc) (hg : ∀ w, C w → w.heap[g]? = some (.cells cs t fr))
    (hu : P.underlying ty = some d) (hd : (match d with | .struct _ | .array _ _ => true | _ => false) = true) (hi : (P.info? ty).map (·.size) = some cs.size)
    (h : K (a.put o.dst (.agg cs))) : o.quiet P a C K :=
  ⟨.agg cs, fun w hC => by
    unfold Oper.quietAt execOp
    simp only [ho, hx, Instr.loadAt, Instr.sureAddr, Sem.run_bind, Sem.run_pure, Result.andThen_ok, run_loadVar_row w g t ty cs fr d (hg w hC) hu hd hi]
    exact ⟨rfl, rfl⟩, h⟩

namespace Jg
theorem encodes (q : Int) (f : Nat → BitVec 64) (l : List (BitVec 64)) (n : Nat) (hn : l.length = n) :
    ∃ (D : Nat) (EB : List (BitVec 8)) (ce : Int), EB.length = D ∧
    (∀ (G : Option Addr) (c : Nat) (W : World), isQ G l W → Calls Try.prog 23 #[.agg (sgA q f (.slice G n c))] W fun e w' => ∃ G' c', e = .returned (.tuple #[.slice G' D c', .int .i64 ce]) ∧ isB G' EB w' ∧ Below W.heap.size W w') ∧
    (∀ (G : Option Addr) (c : Nat) (W : World), isQ G l W → Calls Try.prog 24 #[.agg (sgA q f (.slice G n c))] W fun e w' => ∃ G' c', e = .returned (.tuple #[.slice G' D c', .int .i64 ce]) ∧ isB G' EB w' ∧ Below W.heap.size W w') := by
  subst hn
  cases hk : okK q (l.length : Int) with
  | true => exact ⟨146 + 8 * l.length, encB q f l, 0, encB_len q f l, fun G c W h => encode_ok q f G c l hk W h, fun G c W h => rencode_ok q f G c l hk W h⟩
  | false =>
    exact ⟨0, [], 2, rfl, fun G c W _ => (encode_bad q f G l.length c hk W).mono fun _ _ ⟨h1, h2⟩ => ⟨none, 0, h1, isB.nil _ _, h2⟩,
      fun G c W _ => (rencode_bad q f G l.length c hk W).mono fun _ _ ⟨h1, h2⟩ => ⟨none, 0, h1, isB.nil _ _, h2⟩⟩

theorem decodes (A : Option Addr) (cap : Nat) (l : List (BitVec 8)) (hcap : l.length ≤ cap) (hlen : l.length ≤ 100000) :
    ∃ (T : Option Addr → Nat → Array Value) (PV : List (BitVec 64)) (cd : Int),
    (∀ G c, (T G c).size = 20 ∧ (T G c).all (·.oneCell') = true) ∧
    (∀ W : World, isB A l W → Calls Try.prog 25 #[.slice A l.length cap] W fun e w' => ∃ G c, e = .returned (.tuple #[.agg (T G c), .int .i64 cd]) ∧ isQ G PV w' ∧ Below W.heap.size W w') ∧
    (∀ W : World, isB A l W → Calls Try.prog 26 #[.slice A l.length cap] W fun e w' => ∃ G c, e = .returned (.tuple #[.agg (T G c), .int .i64 cd]) ∧ isQ G PV w' ∧ Below W.heap.size W w') ∧
    (∀ (G1 : Option Addr) (c1 : Nat) (G2 : Option Addr) (c2 : Nat) (W : World), isQ G1 PV W → isQ G2 PV W → Calls Try.prog 20 #[.agg (T G1 c1), .agg (T G2 c2)] W fun e w' => e = .returned (.bool true) ∧ Below W.heap.size W w') := by
  by_cases hwf : wfB l
  · obtain ⟨m, f, ls, hk, rfl⟩ := wf_enc hwf
    have hn6 := okK_len hk
    rw [encB_len] at hcap ⊢
    refine ⟨fun G c => sgA (m : Int) f (.slice G ls.length c), ls, 0, fun G c => ⟨sgA_size _ _ _, sgA_one _ _ _ rfl⟩, fun W h => decode_ok A cap m f ls hk hcap W h, fun W h => rdecode_ok A cap m ls.length f ls rfl hk W h, fun G1 c1 G2 c2 W h1 h2 => ?_⟩
    have := same_any (m : Int) (m : Int) f f G1 G2 c1 c2 ls ls (by omega) W h1 h2
    rw [show sameB (m : Int) f ls (m : Int) f ls = true by simp [sameB]] at this
    exact this
  · have ho2 : (#[.int .i64 0, .int .u64 0, .int .u64 0, .int .u64 0, .int .u64 0, .int .u64 0, .int .u64 0, .int .u64 0, .int .u64 0, .int .u64 0, .int .u64 0, .int .u64 0, .int .u64 0, .int .u64 0, .int .u64 0, .int .u64 0, .int .u64 0, .int .u64 0, .int .u64 0, .slice none 0 0] : Array Value).all (·.oneCell') = true := by decide +kernel
    refine ⟨fun _ _ => (#[.int .i64 0, .int .u64 0, .int .u64 0, .int .u64 0, .int .u64 0, .int .u64 0, .int .u64 0, .int .u64 0, .int .u64 0, .int .u64 0, .int .u64 0, .int .u64 0, .int .u64 0, .int .u64 0, .int .u64 0, .int .u64 0, .int .u64 0, .int .u64 0, .int .u64 0, .slice none 0 0] : Array Value), [], 60, fun _ _ => ⟨rfl, ho2⟩, fun W h => ?_, fun W h => (rdecode_bad A cap l hwf hlen W h).mono fun _ _ ⟨h1, h2⟩ => ⟨none, 0, h1, isQ.nil _ _, h2⟩, fun G1 c1 G2 c2 W h1 h2 => ?_⟩
    · by_cases hs : l.length < 2
      · exact (decode_short A cap l.length hs W).mono fun _ _ ⟨h1, h2⟩ => ⟨none, 0, h1, isQ.nil _ _, h2⟩
      · obtain ⟨a, ha⟩ : ∃ a, l[0]? = some a := ⟨_, List.getElem?_eq_getElem (by omega)⟩
        obtain ⟨b, hb⟩ : ∃ b, l[1]? = some b := ⟨_, List.getElem?_eq_getElem (by omega)⟩
        have hbad : okK (a.toNat : Int) (b.toNat : Int) = false ∨ l.length ≠ 146 + 8 * b.toNat := by
          cases hk : okK (a.toNat : Int) (b.toNat : Int) with
          | false => exact .inl rfl
          | true => exact .inr fun e => hwf ⟨a, b, ha, hb, hk, e⟩
        exact (decode_bad A cap l a b ha hb hbad hlen hcap W h).mono fun _ _ ⟨h1, h2⟩ => ⟨none, 0, h1, isQ.nil _ _, h2⟩
    · have := same_any 0 0 (fun _ => 0#64) (fun _ => 0#64) none none 0 0 [] [] (by simp) W (isQ.nil _ _) (isQ.nil _ _)
      rw [show sameB 0 (fun _ => 0#64) [] 0 (fun _ => 0#64) [] = true by simp [sameB]] at this
      exact this

theorem verifies (root d : BitVec 64) (h q : Int) (f : Nat → BitVec 64) (l : List (BitVec 64)) (n : Nat) (hn : l.length = n) :
    ∃ v : Bool,
    (∀ (G : Option Addr) (c : Nat) (W : World), isQ G l W → Calls Try.prog 27 #[U64 root, .int .i64 h, U64 d, .agg (sgA q f (.slice G n c))] W fun e w' => e = .returned (.bool v) ∧ Below W.heap.size W w') ∧
    (∀ (G : Option Addr) (c : Nat) (W : World), isQ G l W → Calls Try.prog 28 #[U64 root, .int .i64 h, U64 d, .agg (sgA q f (.slice G n c))] W fun e w' => e = .returned (.bool v) ∧ Below W.heap.size W w') := by
  by_cases hno : okK q h = false ∨ (n : Int) ≠ h
  · exact ⟨false, fun G c W _ => verify_no root d h q f G n c hno W, fun G c W _ => rverify_no root d h q f G n c hno W⟩
  · have hk : okK q h = true := by cases e : okK q h with | true => rfl | false => exact absurd (.inl e) hno
    have hnh : (n : Int) = h := Decidable.of_not_not fun e => hno (.inr e)
    subst hnh
    have hn6 := okK_len hk
    have hq0 : 0 ≤ q ∧ q < (2 : Int) ^ n := by
      unfold okK at hk
      have := of_decide_eq_true hk
      rw [Int.toNat_natCast] at this
      omega
    obtain ⟨k, rfl⟩ := Int.eq_ofNat_of_zero_le hq0.1
    have hkl : k < 2 ^ n := by
      have h2 : ((2 ^ n : Nat) : Int) = (2 : Int) ^ n := Int.natCast_pow 2 n
      omega
    exact ⟨_, fun G c W hl => verify_yes root d n k f G c l hn hn6 hkl W hl, fun G c W hl => rverify_yes root d n k f G c l hn hn6 hkl W hl⟩
end Jg
end Go.Proofs.Ytaoipbndmfjmhaa
