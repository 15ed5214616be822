/- The things of a configuration as the values of their cells: opened and made; an element of a slice, loaded. Written by gencfg.py. -/
import Derived.Test.YtdhofaiogbpjpaaCfg
namespace Go.Proofs.Ytdhofaiogbpjpaa
open Go.ChangeShapes Go.RowKit Go.Joins
namespace Tre

section
variable {F : Nat → Prop} {W : World}
theorem LiesAll.nil_inv {vs : List Value} (h : LiesAll F W [] vs) : vs = [] := List.length_eq_zero_iff.1 h.len
theorem LiesAll.cons_inv {t : Tr} {ts : List Tr} {vs : List Value} (h : LiesAll F W (t :: ts) vs) : ∃ v us, vs = v :: us ∧ Lies F W t v ∧ LiesAll F W ts us := by
  match vs, h with
  | [], h => have := h.len; simp at this
  | v :: us, h => exact ⟨v, us, rfl, h.each 0 t v rfl rfl, by have := h.len; simpa using this, fun i g u hg hu => h.each (i + 1) g u (by simpa using hg) (by simpa using hu)⟩
/-- Cells loaded as a value. -/
theorem load_cells {P : Program} (b off : Nat) (ty : TypeId) (us : List Value) (d : TypeDesc) (hc : ∀ (i : Nat) (v : Value), us[i]? = some v → W.cell? ⟨b, off + i, none⟩ = some v)
    (hu : P.underlying ty = some d) (hd : (match d with | .struct _ | .array _ _ => true | _ => false) = true) (hi : (P.info? ty).map (·.size) = some us.length) :
    (loadVar ty ⟨b, off, none⟩).run P W = .ok (.agg us.toArray) W := by
  have hl : (loadCells ⟨b, off, none⟩ us.length).run P W = .ok us.toArray W :=
    run_loadCells_list (P := P) W ⟨b, off, none⟩ us (fun j v hv => by
      rw [Addr.add_lit]
      exact hc j v hv)
  cases hq : P.info? ty with
  | none => simp [hq] at hi
  | some i =>
    have hs : i.size = us.length := by simpa [hq] using hi
    have hagg : (isAgg ty).run P W = .ok true W := by
      unfold isAgg
      rw [Sem.run_bind, run_underlying hu W]
      cases d <;> simp_all
    simp [loadVar, Sem.run_bind, hagg, sizeOf, typeInfo, hq, hs, hl]

theorem openRef {x : RefS} {us : List Value} (h : LiesAll F W (kRef.enc x) us) : us = [.string x.m, .string x.p, .string x.o] := by
  obtain ⟨r0, us, rfl, h0, h⟩ := LiesAll.cons_inv h
  obtain ⟨r1, us, rfl, h1, h⟩ := LiesAll.cons_inv h
  obtain ⟨r2, us, rfl, h2, h⟩ := LiesAll.cons_inv h
  obtain rfl := h.nil_inv
  obtain rfl := h0.is_leaf
  obtain rfl := h1.is_leaf
  obtain rfl := h2.is_leaf
  exact rfl
theorem makeRef (x : RefS) : LiesAll F W (kRef.enc x) [.string x.m, .string x.p, .string x.o] :=
  .cons (.leaf _) (.cons (.leaf _) (.cons (.leaf _) (.nil)))
theorem openPort {x : PortS} {us : List Value} (h : LiesAll F W (kPort.enc x) us) : us = [.string x.name, .int .u8 x.kind, .bool x.out, .int .i64 x.size, .int .i64 x.depth, .int .i64 x.refresh] := by
  obtain ⟨r0, us, rfl, h0, h⟩ := LiesAll.cons_inv h
  obtain ⟨r1, us, rfl, h1, h⟩ := LiesAll.cons_inv h
  obtain ⟨r2, us, rfl, h2, h⟩ := LiesAll.cons_inv h
  obtain ⟨r3, us, rfl, h3, h⟩ := LiesAll.cons_inv h
  obtain ⟨r4, us, rfl, h4, h⟩ := LiesAll.cons_inv h
  obtain ⟨r5, us, rfl, h5, h⟩ := LiesAll.cons_inv h
  obtain rfl := h.nil_inv
  obtain rfl := h0.is_leaf
  obtain rfl := h1.is_leaf
  obtain rfl := h2.is_leaf
  obtain rfl := h3.is_leaf
  obtain rfl := h4.is_leaf
  obtain rfl := h5.is_leaf
  exact rfl
theorem makePort (x : PortS) : LiesAll F W (kPort.enc x) [.string x.name, .int .u8 x.kind, .bool x.out, .int .i64 x.size, .int .i64 x.depth, .int .i64 x.refresh] :=
  .cons (.leaf _) (.cons (.leaf _) (.cons (.leaf _) (.cons (.leaf _) (.cons (.leaf _) (.cons (.leaf _) (.nil))))))
theorem openIns {x : InsS} {us : List Value} (h : LiesAll F W (kIns.enc x) us) : us = [.int .u8 x.op, .int .i64 x.a, .int .i64 x.b, .int .i64 x.c] := by
  obtain ⟨r0, us, rfl, h0, h⟩ := LiesAll.cons_inv h
  obtain ⟨r1, us, rfl, h1, h⟩ := LiesAll.cons_inv h
  obtain ⟨r2, us, rfl, h2, h⟩ := LiesAll.cons_inv h
  obtain ⟨r3, us, rfl, h3, h⟩ := LiesAll.cons_inv h
  obtain rfl := h.nil_inv
  obtain rfl := h0.is_leaf
  obtain rfl := h1.is_leaf
  obtain rfl := h2.is_leaf
  obtain rfl := h3.is_leaf
  exact rfl
theorem makeIns (x : InsS) : LiesAll F W (kIns.enc x) [.int .u8 x.op, .int .i64 x.a, .int .i64 x.b, .int .i64 x.c] :=
  .cons (.leaf _) (.cons (.leaf _) (.cons (.leaf _) (.cons (.leaf _) (.nil))))
theorem openProc {x : ProcS} {us : List Value} (h : LiesAll F W (kProc.enc x) us) : ∃ r4, us = [.string x.name, .int .i64 x.prio, .int .i64 x.period, .int .i64 x.limit, r4] ∧ Lies F W (rowOf kIns x.code) r4 := by
  obtain ⟨r0, us, rfl, h0, h⟩ := LiesAll.cons_inv h
  obtain ⟨r1, us, rfl, h1, h⟩ := LiesAll.cons_inv h
  obtain ⟨r2, us, rfl, h2, h⟩ := LiesAll.cons_inv h
  obtain ⟨r3, us, rfl, h3, h⟩ := LiesAll.cons_inv h
  obtain ⟨r4, us, rfl, h4, h⟩ := LiesAll.cons_inv h
  obtain rfl := h.nil_inv
  obtain rfl := h0.is_leaf
  obtain rfl := h1.is_leaf
  obtain rfl := h2.is_leaf
  obtain rfl := h3.is_leaf
  exact ⟨r4, rfl, h4⟩
theorem makeProc (x : ProcS) {r4 : Value} (h4 : Lies F W (rowOf kIns x.code) r4) : LiesAll F W (kProc.enc x) [.string x.name, .int .i64 x.prio, .int .i64 x.period, .int .i64 x.limit, r4] :=
  .cons (.leaf _) (.cons (.leaf _) (.cons (.leaf _) (.cons (.leaf _) (.cons (h4) (.nil)))))
theorem openPart {x : PartS} {us : List Value} (h : LiesAll F W (kPart.enc x) us) : ∃ r4 r7 r8 r9, us = [.string x.name, .int .i64 x.period, .int .i64 x.length, .int .i64 x.mem, r4, .int .i64 x.events, .int .i64 x.boards, r7, r8, r9] ∧ Lies F W (rowOf intK x.semas) r4 ∧ Lies F W (rowOf intK x.bufs) r7 ∧ Lies F W (rowOf kPort x.ports) r8 ∧ Lies F W (rowOf kProc x.procs) r9 := by
  obtain ⟨r0, us, rfl, h0, h⟩ := LiesAll.cons_inv h
  obtain ⟨r1, us, rfl, h1, h⟩ := LiesAll.cons_inv h
  obtain ⟨r2, us, rfl, h2, h⟩ := LiesAll.cons_inv h
  obtain ⟨r3, us, rfl, h3, h⟩ := LiesAll.cons_inv h
  obtain ⟨r4, us, rfl, h4, h⟩ := LiesAll.cons_inv h
  obtain ⟨r5, us, rfl, h5, h⟩ := LiesAll.cons_inv h
  obtain ⟨r6, us, rfl, h6, h⟩ := LiesAll.cons_inv h
  obtain ⟨r7, us, rfl, h7, h⟩ := LiesAll.cons_inv h
  obtain ⟨r8, us, rfl, h8, h⟩ := LiesAll.cons_inv h
  obtain ⟨r9, us, rfl, h9, h⟩ := LiesAll.cons_inv h
  obtain rfl := h.nil_inv
  obtain rfl := h0.is_leaf
  obtain rfl := h1.is_leaf
  obtain rfl := h2.is_leaf
  obtain rfl := h3.is_leaf
  obtain rfl := h5.is_leaf
  obtain rfl := h6.is_leaf
  exact ⟨r4, r7, r8, r9, rfl, h4, h7, h8, h9⟩
theorem makePart (x : PartS) {r4 r7 r8 r9 : Value} (h4 : Lies F W (rowOf intK x.semas) r4) (h7 : Lies F W (rowOf intK x.bufs) r7) (h8 : Lies F W (rowOf kPort x.ports) r8) (h9 : Lies F W (rowOf kProc x.procs) r9) : LiesAll F W (kPart.enc x) [.string x.name, .int .i64 x.period, .int .i64 x.length, .int .i64 x.mem, r4, .int .i64 x.events, .int .i64 x.boards, r7, r8, r9] :=
  .cons (.leaf _) (.cons (.leaf _) (.cons (.leaf _) (.cons (.leaf _) (.cons (h4) (.cons (.leaf _) (.cons (.leaf _) (.cons (h7) (.cons (h8) (.cons (h9) (.nil))))))))))
theorem openModule {x : ModuleS} {us : List Value} (h : LiesAll F W (kModule.enc x) us) : ∃ r3, us = [.string x.name, .int .i64 x.mem, .int .i64 x.frame, r3] ∧ Lies F W (rowOf kPart x.parts) r3 := by
  obtain ⟨r0, us, rfl, h0, h⟩ := LiesAll.cons_inv h
  obtain ⟨r1, us, rfl, h1, h⟩ := LiesAll.cons_inv h
  obtain ⟨r2, us, rfl, h2, h⟩ := LiesAll.cons_inv h
  obtain ⟨r3, us, rfl, h3, h⟩ := LiesAll.cons_inv h
  obtain rfl := h.nil_inv
  obtain rfl := h0.is_leaf
  obtain rfl := h1.is_leaf
  obtain rfl := h2.is_leaf
  exact ⟨r3, rfl, h3⟩
theorem makeModule (x : ModuleS) {r3 : Value} (h3 : Lies F W (rowOf kPart x.parts) r3) : LiesAll F W (kModule.enc x) [.string x.name, .int .i64 x.mem, .int .i64 x.frame, r3] :=
  .cons (.leaf _) (.cons (.leaf _) (.cons (.leaf _) (.cons (h3) (.nil))))
theorem openChannel {x : ChannelS} {us : List Value} (h : LiesAll F W (kChannel.enc x) us) : ∃ r3, us = [.string x.src.m, .string x.src.p, .string x.src.o, r3] ∧ Lies F W (rowOf kRef x.to) r3 := by
  obtain ⟨r0, us, rfl, h0, h⟩ := LiesAll.cons_inv h
  obtain ⟨r1, us, rfl, h1, h⟩ := LiesAll.cons_inv h
  obtain ⟨r2, us, rfl, h2, h⟩ := LiesAll.cons_inv h
  obtain ⟨r3, us, rfl, h3, h⟩ := LiesAll.cons_inv h
  obtain rfl := h.nil_inv
  obtain rfl := h0.is_leaf
  obtain rfl := h1.is_leaf
  obtain rfl := h2.is_leaf
  exact ⟨r3, rfl, h3⟩
theorem makeChannel (x : ChannelS) {r3 : Value} (h3 : Lies F W (rowOf kRef x.to) r3) : LiesAll F W (kChannel.enc x) [.string x.src.m, .string x.src.p, .string x.src.o, r3] :=
  .cons (.leaf _) (.cons (.leaf _) (.cons (.leaf _) (.cons (h3) (.nil))))
theorem openSwitch {x : SwitchS} {us : List Value} (h : LiesAll F W (kSwitch.enc x) us) : us = [.string x.name, .int .i64 x.net, .int .i64 x.delay, .int .i64 x.store] := by
  obtain ⟨r0, us, rfl, h0, h⟩ := LiesAll.cons_inv h
  obtain ⟨r1, us, rfl, h1, h⟩ := LiesAll.cons_inv h
  obtain ⟨r2, us, rfl, h2, h⟩ := LiesAll.cons_inv h
  obtain ⟨r3, us, rfl, h3, h⟩ := LiesAll.cons_inv h
  obtain rfl := h.nil_inv
  obtain rfl := h0.is_leaf
  obtain rfl := h1.is_leaf
  obtain rfl := h2.is_leaf
  obtain rfl := h3.is_leaf
  exact rfl
theorem makeSwitch (x : SwitchS) : LiesAll F W (kSwitch.enc x) [.string x.name, .int .i64 x.net, .int .i64 x.delay, .int .i64 x.store] :=
  .cons (.leaf _) (.cons (.leaf _) (.cons (.leaf _) (.cons (.leaf _) (.nil))))
theorem openLink {x : LinkS} {us : List Value} (h : LiesAll F W (kLink.enc x) us) : us = [.string x.a, .string x.b, .int .i64 x.net, .int .i64 x.slow] := by
  obtain ⟨r0, us, rfl, h0, h⟩ := LiesAll.cons_inv h
  obtain ⟨r1, us, rfl, h1, h⟩ := LiesAll.cons_inv h
  obtain ⟨r2, us, rfl, h2, h⟩ := LiesAll.cons_inv h
  obtain ⟨r3, us, rfl, h3, h⟩ := LiesAll.cons_inv h
  obtain rfl := h.nil_inv
  obtain rfl := h0.is_leaf
  obtain rfl := h1.is_leaf
  obtain rfl := h2.is_leaf
  obtain rfl := h3.is_leaf
  exact rfl
theorem makeLink (x : LinkS) : LiesAll F W (kLink.enc x) [.string x.a, .string x.b, .int .i64 x.net, .int .i64 x.slow] :=
  .cons (.leaf _) (.cons (.leaf _) (.cons (.leaf _) (.cons (.leaf _) (.nil))))
theorem openVL {x : VLS} {us : List Value} (h : LiesAll F W (kVL.enc x) us) : ∃ r6, us = [.string x.name, .string x.src.m, .string x.src.p, .string x.src.o, .int .i64 x.bag, .int .i64 x.max, r6] ∧ Lies F W (rowOf kRef x.to) r6 := by
  obtain ⟨r0, us, rfl, h0, h⟩ := LiesAll.cons_inv h
  obtain ⟨r1, us, rfl, h1, h⟩ := LiesAll.cons_inv h
  obtain ⟨r2, us, rfl, h2, h⟩ := LiesAll.cons_inv h
  obtain ⟨r3, us, rfl, h3, h⟩ := LiesAll.cons_inv h
  obtain ⟨r4, us, rfl, h4, h⟩ := LiesAll.cons_inv h
  obtain ⟨r5, us, rfl, h5, h⟩ := LiesAll.cons_inv h
  obtain ⟨r6, us, rfl, h6, h⟩ := LiesAll.cons_inv h
  obtain rfl := h.nil_inv
  obtain rfl := h0.is_leaf
  obtain rfl := h1.is_leaf
  obtain rfl := h2.is_leaf
  obtain rfl := h3.is_leaf
  obtain rfl := h4.is_leaf
  obtain rfl := h5.is_leaf
  exact ⟨r6, rfl, h6⟩
theorem makeVL (x : VLS) {r6 : Value} (h6 : Lies F W (rowOf kRef x.to) r6) : LiesAll F W (kVL.enc x) [.string x.name, .string x.src.m, .string x.src.p, .string x.src.o, .int .i64 x.bag, .int .i64 x.max, r6] :=
  .cons (.leaf _) (.cons (.leaf _) (.cons (.leaf _) (.cons (.leaf _) (.cons (.leaf _) (.cons (.leaf _) (.cons (h6) (.nil)))))))
theorem openHealth {x : HealthS} {us : List Value} (h : LiesAll F W (kHealth.enc x) us) : us = [.string x.m, .string x.p, .int .u8 x.fault, .int .u8 x.level, .int .u8 x.act] := by
  obtain ⟨r0, us, rfl, h0, h⟩ := LiesAll.cons_inv h
  obtain ⟨r1, us, rfl, h1, h⟩ := LiesAll.cons_inv h
  obtain ⟨r2, us, rfl, h2, h⟩ := LiesAll.cons_inv h
  obtain ⟨r3, us, rfl, h3, h⟩ := LiesAll.cons_inv h
  obtain ⟨r4, us, rfl, h4, h⟩ := LiesAll.cons_inv h
  obtain rfl := h.nil_inv
  obtain rfl := h0.is_leaf
  obtain rfl := h1.is_leaf
  obtain rfl := h2.is_leaf
  obtain rfl := h3.is_leaf
  obtain rfl := h4.is_leaf
  exact rfl
theorem makeHealth (x : HealthS) : LiesAll F W (kHealth.enc x) [.string x.m, .string x.p, .int .u8 x.fault, .int .u8 x.level, .int .u8 x.act] :=
  .cons (.leaf _) (.cons (.leaf _) (.cons (.leaf _) (.cons (.leaf _) (.cons (.leaf _) (.nil)))))
theorem openReport {x : ReportS} {us : List Value} (h : LiesAll F W (kReport.enc x) us) : us = [.string x.unit, .int .i64 x.code] := by
  obtain ⟨r0, us, rfl, h0, h⟩ := LiesAll.cons_inv h
  obtain ⟨r1, us, rfl, h1, h⟩ := LiesAll.cons_inv h
  obtain rfl := h.nil_inv
  obtain rfl := h0.is_leaf
  obtain rfl := h1.is_leaf
  exact rfl
theorem makeReport (x : ReportS) : LiesAll F W (kReport.enc x) [.string x.unit, .int .i64 x.code] :=
  .cons (.leaf _) (.cons (.leaf _) (.nil))
theorem openCause {x : CauseS} {us : List Value} (h : LiesAll F W (kCause.enc x) us) : ∃ r1 r2, us = [.string x.unit, r1, r2] ∧ Lies F W (rowOf kReport x.needs) r1 ∧ Lies F W (rowOf strK x.save) r2 := by
  obtain ⟨r0, us, rfl, h0, h⟩ := LiesAll.cons_inv h
  obtain ⟨r1, us, rfl, h1, h⟩ := LiesAll.cons_inv h
  obtain ⟨r2, us, rfl, h2, h⟩ := LiesAll.cons_inv h
  obtain rfl := h.nil_inv
  obtain rfl := h0.is_leaf
  exact ⟨r1, r2, rfl, h1, h2⟩
theorem makeCause (x : CauseS) {r1 r2 : Value} (h1 : Lies F W (rowOf kReport x.needs) r1) (h2 : Lies F W (rowOf strK x.save) r2) : LiesAll F W (kCause.enc x) [.string x.unit, r1, r2] :=
  .cons (.leaf _) (.cons (h1) (.cons (h2) (.nil)))
theorem openVersion {x : VersionS} {us : List Value} (h : LiesAll F W (kVersion.enc x) us) : us = [.string x.a, .int .i64 x.va, .string x.b, .int .i64 x.vb] := by
  obtain ⟨r0, us, rfl, h0, h⟩ := LiesAll.cons_inv h
  obtain ⟨r1, us, rfl, h1, h⟩ := LiesAll.cons_inv h
  obtain ⟨r2, us, rfl, h2, h⟩ := LiesAll.cons_inv h
  obtain ⟨r3, us, rfl, h3, h⟩ := LiesAll.cons_inv h
  obtain rfl := h.nil_inv
  obtain rfl := h0.is_leaf
  obtain rfl := h1.is_leaf
  obtain rfl := h2.is_leaf
  obtain rfl := h3.is_leaf
  exact rfl
theorem makeVersion (x : VersionS) : LiesAll F W (kVersion.enc x) [.string x.a, .int .i64 x.va, .string x.b, .int .i64 x.vb] :=
  .cons (.leaf _) (.cons (.leaf _) (.cons (.leaf _) (.cons (.leaf _) (.nil))))
theorem openConfig {x : ConfigS} {us : List Value} (h : LiesAll F W (kConfig.enc x) us) : ∃ r0 r1 r2 r3 r4 r5 r6 r7, us = [r0, r1, r2, r3, r4, r5, r6, r7] ∧ Lies F W (rowOf kModule x.modules) r0 ∧ Lies F W (rowOf kChannel x.channels) r1 ∧ Lies F W (rowOf kSwitch x.switches) r2 ∧ Lies F W (rowOf kLink x.links) r3 ∧ Lies F W (rowOf kVL x.vls) r4 ∧ Lies F W (rowOf kHealth x.health) r5 ∧ Lies F W (rowOf kCause x.causes) r6 ∧ Lies F W (rowOf kVersion x.versions) r7 := by
  obtain ⟨r0, us, rfl, h0, h⟩ := LiesAll.cons_inv h
  obtain ⟨r1, us, rfl, h1, h⟩ := LiesAll.cons_inv h
  obtain ⟨r2, us, rfl, h2, h⟩ := LiesAll.cons_inv h
  obtain ⟨r3, us, rfl, h3, h⟩ := LiesAll.cons_inv h
  obtain ⟨r4, us, rfl, h4, h⟩ := LiesAll.cons_inv h
  obtain ⟨r5, us, rfl, h5, h⟩ := LiesAll.cons_inv h
  obtain ⟨r6, us, rfl, h6, h⟩ := LiesAll.cons_inv h
  obtain ⟨r7, us, rfl, h7, h⟩ := LiesAll.cons_inv h
  obtain rfl := h.nil_inv
  exact ⟨r0, r1, r2, r3, r4, r5, r6, r7, rfl, h0, h1, h2, h3, h4, h5, h6, h7⟩
theorem makeConfig (x : ConfigS) {r0 r1 r2 r3 r4 r5 r6 r7 : Value} (h0 : Lies F W (rowOf kModule x.modules) r0) (h1 : Lies F W (rowOf kChannel x.channels) r1) (h2 : Lies F W (rowOf kSwitch x.switches) r2) (h3 : Lies F W (rowOf kLink x.links) r3) (h4 : Lies F W (rowOf kVL x.vls) r4) (h5 : Lies F W (rowOf kHealth x.health) r5) (h6 : Lies F W (rowOf kCause x.causes) r6) (h7 : Lies F W (rowOf kVersion x.versions) r7) : LiesAll F W (kConfig.enc x) [r0, r1, r2, r3, r4, r5, r6, r7] :=
  .cons (h0) (.cons (h1) (.cons (h2) (.cons (h3) (.cons (h4) (.cons (h5) (.cons (h6) (.cons (h7) (.nil))))))))
end
end Tre
end Go.Proofs.Ytdhofaiogbpjpaa
