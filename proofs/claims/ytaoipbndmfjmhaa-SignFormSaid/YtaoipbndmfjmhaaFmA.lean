/- SignForm: its walk up to whether the signature has a form. -/
import Derived.Test.YtaoipbndmfjmhaaAwake
import Derived.Test.YtaoipbndmfjmhaaSame
import Derived.Test.YtaoipbndmfjmhaaDecOk
import Derived.Test.YtaoipbndmfjmhaaVer
import Derived.Test.YtaoipbndmfjmhaaMin
import Derived.Test.YtaoipbndmfjmhaaZer
import Derived.Test.YtaoipbndmfjmhaaCut4
namespace Go.Proofs.Ytaoipbndmfjmhaa
open Go.RowKit Go.Joins
namespace Fm
theorem pow_wrap (h : Nat) (hh : h ≤ 6) : wrap64 ((2 : Int) ^ h) = ((2 ^ h : Nat) : Int) ∧ IntKind.i64.wrap ((2 : Int) ^ h) = ((2 ^ h : Nat) : Int) := by
  have h1 : (2 : Int) ^ h = ((2 ^ h : Nat) : Int) := (Int.natCast_pow 2 h).symm
  have h2 : 2 ^ h ≤ 2 ^ 6 := Nat.pow_le_pow_right (by decide) hh
  rw [h1]
  generalize 2 ^ h = m at h2 ⊢
  exact ⟨by unfold wrap64; omega, wrapI (by omega) (by omega)⟩
set_option maxRecDepth 100000 in
set_option maxHeartbeats 8000000 in
noncomputable def step : Cut4 (∀ (root d : BitVec 64) (ht q : Int) (f : Nat → BitVec 64) (G : Option Addr) (c : Nat) (l : List (BitVec 64)) (cb : Nat) (_ : cb ≤ 255) (w : World) (_ : isQ G l w) (_ : l.length ≤ 9223372036854775807),
    Calls Try.prog 8 #[U64 root, .int .i64 ht, U64 d, .agg (sgA q f (.slice G l.length c)), .int .u8 cb] w fun e w' => e = .returned (.bool true) ∧ Below w.heap.size w w') := by
  refine ⟨?p1, ?p2, ?p3, ?p4, fun H1 H2 H3 H4 => ?main⟩
  case main =>
    intro root d ht q f G c l cb hcb w hQ hlen
    have HW : Hid (∀ W : World, _) := fun W => awake_true W
    have c0T : (sgA q f (.slice G l.length c))[0]? = some (.int .i64 q) := sgA_key _ _ _
    have c19T : (sgA q f (.slice G l.length c))[19]? = some (.slice G l.length c) := sgA_path _ _ _
    obtain ⟨n, hn⟩ : ∃ n, l.length = n := ⟨_, rfl⟩
    rw [hn] at c0T c19T hlen ⊢
    have Hn := Lib.hid hn
    obtain ⟨T, hT⟩ : ∃ T, sgA q f (.slice G n c) = T := ⟨_, rfl⟩
    rw [hT] at c0T c19T ⊢
    have HT := Lib.hid hT
    clear hn hT
    have bT := BoxN.new w 34 T
    have hB : Below w.heap.size w (w.alloc (.cells T 34)) := (Below.refl _ w).alloc (Nat.le_refl _) _
    have hQ1 := hQ.keep hB
    have k0 := bT.cell 0
    have k19 := bT.cell 19
    rw [c0T] at k0
    rw [c19T] at k19
    go_enter Try.func8, Try.ntmps8
    by_cases hbig : 10 < n
    · have hd : decide ((10 : Int) < (n : Int)) = true := decide_eq_true (by omega)
      go_wp2_with fail
      (with_reducible refine (HW.out _).mono ?_); rintro e w1 ⟨rfl, hb1⟩
      go_wp2_with fail
      go_ret
      exact ⟨rfl, hB.trans (hb1.mono hB.size)⟩
    have hd : decide ((10 : Int) < (n : Int)) = false := decide_eq_false (by omega)
    have hn10 : n ≤ 10 := by omega
    clear hbig hlen
    go_upto_region 3 with fail
    generalize w.alloc (.cells T 34) = w1 at bT hB hQ1 k0 k19 ⊢
    obtain ⟨g, hg⟩ : ∃ g, w.heap.size = g := ⟨_, rfl⟩
    rw [hg] at bT k0 k19 ⊢
    have hgl := bT.lt
    have Hg := Lib.hid hg
    clear hg hd
    obtain ⟨sh, hsh⟩ : ∃ sh, (okK q ht && decide ((n : Int) = ht)) = sh := ⟨_, rfl⟩
    have Hsh := Lib.hid hsh
    go_cut [11] from 27 to 53 (fun s11 wx => s11 = .bool sh ∧ ∃ nq, wx = w1.drewN nq)
    case first =>
      rename_i zfmFirst0 zfmFirst1 zfmFirst2 zfmFirst3 zfmFirst4 zfmFirst5 zfmFirst6
      clear H2 H3 H4
      revert root d ht q f G c l cb hcb w hQ HW n Hn T c19T c0T HT hn10 zfmFirst0 zfmFirst1 zfmFirst2 w1 hB hQ1 g k19 k0 bT hgl Hg sh hsh Hsh zfmFirst3 zfmFirst4 zfmFirst5 zfmFirst6
      exact H1.out
    case rest =>
    obtain ⟨hs11, nq, rfl⟩ := hcut
    subst hs11
    clear hsh k0 k19
    rename_i zfmRest0 zfmRest1 zfmRest2
    clear H1 H3 H4
    revert root d ht q f G c l cb hcb w hQ HW n Hn T c19T c0T HT hn10 zfmRest0 zfmRest1 zfmRest2 w1 hB hQ1 g bT hgl Hg sh Hsh u27 u28 u29 u30 u31 u32 u33 u34 u35 u36 u37 u38 u39 u40 u41 u42 u43 u44 u45 u46 u47 u48 u49 u50 u51 u52 u53 nq
    exact H2.out
  all_goals exact True
end Fm
end Go.Proofs.Ytaoipbndmfjmhaa
