/- The reference's Sign: its end. -/
import Derived.Test.YtaoipbndmfjmhaaRfG
namespace Go.Proofs.Ytaoipbndmfjmhaa
open Go.RowKit Go.Joins
namespace RSg
set_option maxRecDepth 100000 in
set_option maxHeartbeats 8000000 in
theorem fin : step.p2 := by
  unfold step
  intro seed d h q hh hq w HN f HV Z O hZs R hRs hZn T HD HT zrsEnd0 w1 gS hgS w2 zrsEnd1 w3 gD hSD zrsEnd2 u18 u19 u20 u21 u22 u23 u24 u25 u26 u27 u28 u29 u30 u31 hDl Sg HSg zrsEnd3 zrsEnd4 zrsEnd5 zrsEnd6 zrsEnd7 S hS hHS wr u33 u34 u35 u36 u37 u38 u39 u40 u41 u42 u43 u44 u45 u46 u47 u48 u49 u50 u51 u52 u53 u54 u55 u56 u57 u58 u59 u60 u61 u62 n m G c hn hm bS hown hSl b8 hB hlt
  obtain rfl : n = h := by omega
  have hd : decide (n < n) = false := by simp
  have hlen : ((pathV seed n q).take n) = pathV seed n q := List.take_of_length_le (by rw [pathV_len]; exact Nat.le_refl _)
  rw [hlen] at hown
  have hq1 : isQ G (pathV seed n q) wr := isQ_of_own (c := c) (by rw [pathV_len]; exact hown)
  have hi2 : (Try.prog.info? 34).map (·.size) = some (Sg (.slice G n c)).size := by rw [← HSg.out, sgA_size]; exact info_sig
  have ho2 : (Sg (.slice G n c)).all (·.oneCell') = true := by rw [← HSg.out]; exact sgA_one _ _ _ rfl
  have hs2 : Z.size = (Sg (.slice G n c)).size := by rw [← HSg.out, sgA_size, hZs]
  have hT : Hid (Sg (.slice G n c) = sgA q f (.slice G n c)) := by unfold Hid; rw [HSg.out]
  have hlt2 : ∀ a, G = some a → S ≤ a.block := fun a ea => own_block_le hown a.block (by rw [ea]; rfl)
  have b2 : BoxN (wr.setRow w.heap.size (Sg (.slice G n c))) w.heap.size 34 (Sg (.slice G n c)) := BoxN.setRow b8 _
  have hB2 := below_setRow hB (Nat.le_refl _) (Sg (.slice G n c))
  have hq2 : isQ G (pathV seed n q) (wr.setRow w.heap.size (Sg (.slice G n c))) := fun hne => by
    obtain ⟨b, off, e, hb, hr⟩ := hq1 hne
    have hbS := hlt2 _ e
    have hne2 : b ≠ w.heap.size := by simp only at hbS; omega
    refine ⟨b, off, e, by simpa [World.setRow] using hb, fun k z hk => ?_⟩
    rw [World.cell?_of_block (w := wr) (setRow_other wr w.heap.size b _ hne2)]
    exact hr k z hk
  have hbS' : wr.heap[gS]? = some (.cells (Sg (.slice G n c)) 34 (0, 0)) := bS
  have hb8' : wr.heap[w.heap.size]? = some (.cells Z 34 (0, 0)) := b8
  have HQ := Lib.hid hq2
  have HB2 := Lib.hid hB2
  clear hown hq1 hq2 hlt2 bS b8 hB hB2 hlen
  generalize Sg (.slice G n c) = T2 at *
  go_wp2_with (first | (refine wpList_load_row rfl 34 _ rfl gS rfl _ T2 _ _ hbS' Try.underlying34 rfl hi2 ?_) | (refine wpList_store_rowTo rfl 34 _ _ rfl rfl w.heap.size T2 rfl rfl _ Z hb8' hi2 hs2 ho2 ?_))
  exact bodyPost_ret (v := .agg T2) (results_cell_row Try.results22 _ _ w.heap.size _ T2 _ _ rfl b2 Try.underlying34 rfl hi2) rfl ⟨G, c, by rw [hT.out], HQ.out, HB2.out⟩
end RSg
end Go.Proofs.Ytaoipbndmfjmhaa
