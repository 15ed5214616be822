/- The things of a configuration: structures, their cells, what comes in is one of them. Written by gencfg.py. -/
import Derived.Test.YtdhofaiogbpjpaaTreeEnc
namespace Go.Proofs.Ytdhofaiogbpjpaa
open Go.ChangeShapes Go.RowKit Go.Joins
namespace Tre

def intK : Knd Int := ⟨1, fun n => [.leaf (.int .i64 n)], fun _ => rfl, by decide⟩
def strK : Knd ByteArray := ⟨1, fun s => [.leaf (.string s)], fun _ => rfl, by decide⟩
abbrev intT : List Ty := [.int .i64]
abbrev strT : List Ty := [.str]
theorem intI (ts : List Tr) (h : OfAll intT ts) : ∃ x, ts = intK.enc x := by
  obtain ⟨t, us, rfl, h0, h⟩ := h.cons_inv
  obtain rfl := h.nil_inv
  obtain ⟨n, rfl⟩ := h0.int_inv
  exact ⟨n, rfl⟩
theorem strI (ts : List Tr) (h : OfAll strT ts) : ∃ x, ts = strK.enc x := by
  obtain ⟨t, us, rfl, h0, h⟩ := h.cons_inv
  obtain rfl := h.nil_inv
  obtain ⟨n, rfl⟩ := h0.str_inv
  exact ⟨n, rfl⟩

structure RefS where
  m : ByteArray
  p : ByteArray
  o : ByteArray
def kRef : Knd RefS := ⟨3, fun x => [.leaf (.string x.m), .leaf (.string x.p), .leaf (.string x.o)], fun _ => rfl, by decide⟩
abbrev tRef : List Ty := [.str, .str, .str]
theorem iRef (ts : List Tr) (h : OfAll tRef ts) : ∃ x, ts = kRef.enc x := by
  obtain ⟨t0, us, rfl, h0, h⟩ := h.cons_inv
  obtain ⟨t1, us, rfl, h1, h⟩ := h.cons_inv
  obtain ⟨t2, us, rfl, h2, h⟩ := h.cons_inv
  obtain rfl := h.nil_inv
  obtain ⟨x0, rfl⟩ := h0.str_inv
  obtain ⟨x1, rfl⟩ := h1.str_inv
  obtain ⟨x2, rfl⟩ := h2.str_inv
  exact ⟨⟨x0, x1, x2⟩, rfl⟩

structure PortS where
  name : ByteArray
  kind : Int
  out : Bool
  size : Int
  depth : Int
  refresh : Int
def kPort : Knd PortS := ⟨6, fun x => [.leaf (.string x.name), .leaf (.int .u8 x.kind), .leaf (.bool x.out), .leaf (.int .i64 x.size), .leaf (.int .i64 x.depth), .leaf (.int .i64 x.refresh)], fun _ => rfl, by decide⟩
abbrev tPort : List Ty := [.str, .int .u8, .bool, .int .i64, .int .i64, .int .i64]
theorem iPort (ts : List Tr) (h : OfAll tPort ts) : ∃ x, ts = kPort.enc x := by
  obtain ⟨t0, us, rfl, h0, h⟩ := h.cons_inv
  obtain ⟨t1, us, rfl, h1, h⟩ := h.cons_inv
  obtain ⟨t2, us, rfl, h2, h⟩ := h.cons_inv
  obtain ⟨t3, us, rfl, h3, h⟩ := h.cons_inv
  obtain ⟨t4, us, rfl, h4, h⟩ := h.cons_inv
  obtain ⟨t5, us, rfl, h5, h⟩ := h.cons_inv
  obtain rfl := h.nil_inv
  obtain ⟨x0, rfl⟩ := h0.str_inv
  obtain ⟨x1, rfl⟩ := h1.int_inv
  obtain ⟨x2, rfl⟩ := h2.bool_inv
  obtain ⟨x3, rfl⟩ := h3.int_inv
  obtain ⟨x4, rfl⟩ := h4.int_inv
  obtain ⟨x5, rfl⟩ := h5.int_inv
  exact ⟨⟨x0, x1, x2, x3, x4, x5⟩, rfl⟩

structure InsS where
  op : Int
  a : Int
  b : Int
  c : Int
def kIns : Knd InsS := ⟨4, fun x => [.leaf (.int .u8 x.op), .leaf (.int .i64 x.a), .leaf (.int .i64 x.b), .leaf (.int .i64 x.c)], fun _ => rfl, by decide⟩
abbrev tIns : List Ty := [.int .u8, .int .i64, .int .i64, .int .i64]
theorem iIns (ts : List Tr) (h : OfAll tIns ts) : ∃ x, ts = kIns.enc x := by
  obtain ⟨t0, us, rfl, h0, h⟩ := h.cons_inv
  obtain ⟨t1, us, rfl, h1, h⟩ := h.cons_inv
  obtain ⟨t2, us, rfl, h2, h⟩ := h.cons_inv
  obtain ⟨t3, us, rfl, h3, h⟩ := h.cons_inv
  obtain rfl := h.nil_inv
  obtain ⟨x0, rfl⟩ := h0.int_inv
  obtain ⟨x1, rfl⟩ := h1.int_inv
  obtain ⟨x2, rfl⟩ := h2.int_inv
  obtain ⟨x3, rfl⟩ := h3.int_inv
  exact ⟨⟨x0, x1, x2, x3⟩, rfl⟩

structure ProcS where
  name : ByteArray
  prio : Int
  period : Int
  limit : Int
  code : List InsS
def kProc : Knd ProcS := ⟨5, fun x => [.leaf (.string x.name), .leaf (.int .i64 x.prio), .leaf (.int .i64 x.period), .leaf (.int .i64 x.limit), rowOf kIns x.code], fun _ => rfl, by decide⟩
abbrev tProc : List Ty := [.str, .int .i64, .int .i64, .int .i64, .row tIns]
theorem iProc (ts : List Tr) (h : OfAll tProc ts) : ∃ x, ts = kProc.enc x := by
  obtain ⟨t0, us, rfl, h0, h⟩ := h.cons_inv
  obtain ⟨t1, us, rfl, h1, h⟩ := h.cons_inv
  obtain ⟨t2, us, rfl, h2, h⟩ := h.cons_inv
  obtain ⟨t3, us, rfl, h3, h⟩ := h.cons_inv
  obtain ⟨t4, us, rfl, h4, h⟩ := h.cons_inv
  obtain rfl := h.nil_inv
  obtain ⟨x0, rfl⟩ := h0.str_inv
  obtain ⟨x1, rfl⟩ := h1.int_inv
  obtain ⟨x2, rfl⟩ := h2.int_inv
  obtain ⟨x3, rfl⟩ := h3.int_inv
  obtain ⟨x4, rfl⟩ := Of.row_inv (k := kIns) rfl iIns h4
  exact ⟨⟨x0, x1, x2, x3, x4⟩, rfl⟩

structure PartS where
  name : ByteArray
  period : Int
  length : Int
  mem : Int
  semas : List Int
  events : Int
  boards : Int
  bufs : List Int
  ports : List PortS
  procs : List ProcS
def kPart : Knd PartS := ⟨10, fun x => [.leaf (.string x.name), .leaf (.int .i64 x.period), .leaf (.int .i64 x.length), .leaf (.int .i64 x.mem), rowOf intK x.semas, .leaf (.int .i64 x.events), .leaf (.int .i64 x.boards), rowOf intK x.bufs, rowOf kPort x.ports, rowOf kProc x.procs], fun _ => rfl, by decide⟩
abbrev tPart : List Ty := [.str, .int .i64, .int .i64, .int .i64, .row intT, .int .i64, .int .i64, .row intT, .row tPort, .row tProc]
theorem iPart (ts : List Tr) (h : OfAll tPart ts) : ∃ x, ts = kPart.enc x := by
  obtain ⟨t0, us, rfl, h0, h⟩ := h.cons_inv
  obtain ⟨t1, us, rfl, h1, h⟩ := h.cons_inv
  obtain ⟨t2, us, rfl, h2, h⟩ := h.cons_inv
  obtain ⟨t3, us, rfl, h3, h⟩ := h.cons_inv
  obtain ⟨t4, us, rfl, h4, h⟩ := h.cons_inv
  obtain ⟨t5, us, rfl, h5, h⟩ := h.cons_inv
  obtain ⟨t6, us, rfl, h6, h⟩ := h.cons_inv
  obtain ⟨t7, us, rfl, h7, h⟩ := h.cons_inv
  obtain ⟨t8, us, rfl, h8, h⟩ := h.cons_inv
  obtain ⟨t9, us, rfl, h9, h⟩ := h.cons_inv
  obtain rfl := h.nil_inv
  obtain ⟨x0, rfl⟩ := h0.str_inv
  obtain ⟨x1, rfl⟩ := h1.int_inv
  obtain ⟨x2, rfl⟩ := h2.int_inv
  obtain ⟨x3, rfl⟩ := h3.int_inv
  obtain ⟨x4, rfl⟩ := Of.row_inv (k := intK) rfl intI h4
  obtain ⟨x5, rfl⟩ := h5.int_inv
  obtain ⟨x6, rfl⟩ := h6.int_inv
  obtain ⟨x7, rfl⟩ := Of.row_inv (k := intK) rfl intI h7
  obtain ⟨x8, rfl⟩ := Of.row_inv (k := kPort) rfl iPort h8
  obtain ⟨x9, rfl⟩ := Of.row_inv (k := kProc) rfl iProc h9
  exact ⟨⟨x0, x1, x2, x3, x4, x5, x6, x7, x8, x9⟩, rfl⟩

structure ModuleS where
  name : ByteArray
  mem : Int
  frame : Int
  parts : List PartS
def kModule : Knd ModuleS := ⟨4, fun x => [.leaf (.string x.name), .leaf (.int .i64 x.mem), .leaf (.int .i64 x.frame), rowOf kPart x.parts], fun _ => rfl, by decide⟩
abbrev tModule : List Ty := [.str, .int .i64, .int .i64, .row tPart]
theorem iModule (ts : List Tr) (h : OfAll tModule ts) : ∃ x, ts = kModule.enc x := by
  obtain ⟨t0, us, rfl, h0, h⟩ := h.cons_inv
  obtain ⟨t1, us, rfl, h1, h⟩ := h.cons_inv
  obtain ⟨t2, us, rfl, h2, h⟩ := h.cons_inv
  obtain ⟨t3, us, rfl, h3, h⟩ := h.cons_inv
  obtain rfl := h.nil_inv
  obtain ⟨x0, rfl⟩ := h0.str_inv
  obtain ⟨x1, rfl⟩ := h1.int_inv
  obtain ⟨x2, rfl⟩ := h2.int_inv
  obtain ⟨x3, rfl⟩ := Of.row_inv (k := kPart) rfl iPart h3
  exact ⟨⟨x0, x1, x2, x3⟩, rfl⟩

structure ChannelS where
  src : RefS
  to : List RefS
def kChannel : Knd ChannelS := ⟨4, fun x => [.leaf (.string x.src.m), .leaf (.string x.src.p), .leaf (.string x.src.o), rowOf kRef x.to], fun _ => rfl, by decide⟩
abbrev tChannel : List Ty := [.str, .str, .str, .row tRef]
theorem iChannel (ts : List Tr) (h : OfAll tChannel ts) : ∃ x, ts = kChannel.enc x := by
  obtain ⟨t0, us, rfl, h0, h⟩ := h.cons_inv
  obtain ⟨t1, us, rfl, h1, h⟩ := h.cons_inv
  obtain ⟨t2, us, rfl, h2, h⟩ := h.cons_inv
  obtain ⟨t3, us, rfl, h3, h⟩ := h.cons_inv
  obtain rfl := h.nil_inv
  obtain ⟨x0, rfl⟩ := h0.str_inv
  obtain ⟨x1, rfl⟩ := h1.str_inv
  obtain ⟨x2, rfl⟩ := h2.str_inv
  obtain ⟨x3, rfl⟩ := Of.row_inv (k := kRef) rfl iRef h3
  exact ⟨⟨⟨x0, x1, x2⟩, x3⟩, rfl⟩

structure SwitchS where
  name : ByteArray
  net : Int
  delay : Int
  store : Int
def kSwitch : Knd SwitchS := ⟨4, fun x => [.leaf (.string x.name), .leaf (.int .i64 x.net), .leaf (.int .i64 x.delay), .leaf (.int .i64 x.store)], fun _ => rfl, by decide⟩
abbrev tSwitch : List Ty := [.str, .int .i64, .int .i64, .int .i64]
theorem iSwitch (ts : List Tr) (h : OfAll tSwitch ts) : ∃ x, ts = kSwitch.enc x := by
  obtain ⟨t0, us, rfl, h0, h⟩ := h.cons_inv
  obtain ⟨t1, us, rfl, h1, h⟩ := h.cons_inv
  obtain ⟨t2, us, rfl, h2, h⟩ := h.cons_inv
  obtain ⟨t3, us, rfl, h3, h⟩ := h.cons_inv
  obtain rfl := h.nil_inv
  obtain ⟨x0, rfl⟩ := h0.str_inv
  obtain ⟨x1, rfl⟩ := h1.int_inv
  obtain ⟨x2, rfl⟩ := h2.int_inv
  obtain ⟨x3, rfl⟩ := h3.int_inv
  exact ⟨⟨x0, x1, x2, x3⟩, rfl⟩

structure LinkS where
  a : ByteArray
  b : ByteArray
  net : Int
  slow : Int
def kLink : Knd LinkS := ⟨4, fun x => [.leaf (.string x.a), .leaf (.string x.b), .leaf (.int .i64 x.net), .leaf (.int .i64 x.slow)], fun _ => rfl, by decide⟩
abbrev tLink : List Ty := [.str, .str, .int .i64, .int .i64]
theorem iLink (ts : List Tr) (h : OfAll tLink ts) : ∃ x, ts = kLink.enc x := by
  obtain ⟨t0, us, rfl, h0, h⟩ := h.cons_inv
  obtain ⟨t1, us, rfl, h1, h⟩ := h.cons_inv
  obtain ⟨t2, us, rfl, h2, h⟩ := h.cons_inv
  obtain ⟨t3, us, rfl, h3, h⟩ := h.cons_inv
  obtain rfl := h.nil_inv
  obtain ⟨x0, rfl⟩ := h0.str_inv
  obtain ⟨x1, rfl⟩ := h1.str_inv
  obtain ⟨x2, rfl⟩ := h2.int_inv
  obtain ⟨x3, rfl⟩ := h3.int_inv
  exact ⟨⟨x0, x1, x2, x3⟩, rfl⟩

structure VLS where
  name : ByteArray
  src : RefS
  bag : Int
  max : Int
  to : List RefS
def kVL : Knd VLS := ⟨7, fun x => [.leaf (.string x.name), .leaf (.string x.src.m), .leaf (.string x.src.p), .leaf (.string x.src.o), .leaf (.int .i64 x.bag), .leaf (.int .i64 x.max), rowOf kRef x.to], fun _ => rfl, by decide⟩
abbrev tVL : List Ty := [.str, .str, .str, .str, .int .i64, .int .i64, .row tRef]
theorem iVL (ts : List Tr) (h : OfAll tVL ts) : ∃ x, ts = kVL.enc x := by
  obtain ⟨t0, us, rfl, h0, h⟩ := h.cons_inv
  obtain ⟨t1, us, rfl, h1, h⟩ := h.cons_inv
  obtain ⟨t2, us, rfl, h2, h⟩ := h.cons_inv
  obtain ⟨t3, us, rfl, h3, h⟩ := h.cons_inv
  obtain ⟨t4, us, rfl, h4, h⟩ := h.cons_inv
  obtain ⟨t5, us, rfl, h5, h⟩ := h.cons_inv
  obtain ⟨t6, us, rfl, h6, h⟩ := h.cons_inv
  obtain rfl := h.nil_inv
  obtain ⟨x0, rfl⟩ := h0.str_inv
  obtain ⟨x1, rfl⟩ := h1.str_inv
  obtain ⟨x2, rfl⟩ := h2.str_inv
  obtain ⟨x3, rfl⟩ := h3.str_inv
  obtain ⟨x4, rfl⟩ := h4.int_inv
  obtain ⟨x5, rfl⟩ := h5.int_inv
  obtain ⟨x6, rfl⟩ := Of.row_inv (k := kRef) rfl iRef h6
  exact ⟨⟨x0, ⟨x1, x2, x3⟩, x4, x5, x6⟩, rfl⟩

structure HealthS where
  m : ByteArray
  p : ByteArray
  fault : Int
  level : Int
  act : Int
def kHealth : Knd HealthS := ⟨5, fun x => [.leaf (.string x.m), .leaf (.string x.p), .leaf (.int .u8 x.fault), .leaf (.int .u8 x.level), .leaf (.int .u8 x.act)], fun _ => rfl, by decide⟩
abbrev tHealth : List Ty := [.str, .str, .int .u8, .int .u8, .int .u8]
theorem iHealth (ts : List Tr) (h : OfAll tHealth ts) : ∃ x, ts = kHealth.enc x := by
  obtain ⟨t0, us, rfl, h0, h⟩ := h.cons_inv
  obtain ⟨t1, us, rfl, h1, h⟩ := h.cons_inv
  obtain ⟨t2, us, rfl, h2, h⟩ := h.cons_inv
  obtain ⟨t3, us, rfl, h3, h⟩ := h.cons_inv
  obtain ⟨t4, us, rfl, h4, h⟩ := h.cons_inv
  obtain rfl := h.nil_inv
  obtain ⟨x0, rfl⟩ := h0.str_inv
  obtain ⟨x1, rfl⟩ := h1.str_inv
  obtain ⟨x2, rfl⟩ := h2.int_inv
  obtain ⟨x3, rfl⟩ := h3.int_inv
  obtain ⟨x4, rfl⟩ := h4.int_inv
  exact ⟨⟨x0, x1, x2, x3, x4⟩, rfl⟩

structure ReportS where
  unit : ByteArray
  code : Int
def kReport : Knd ReportS := ⟨2, fun x => [.leaf (.string x.unit), .leaf (.int .i64 x.code)], fun _ => rfl, by decide⟩
abbrev tReport : List Ty := [.str, .int .i64]
theorem iReport (ts : List Tr) (h : OfAll tReport ts) : ∃ x, ts = kReport.enc x := by
  obtain ⟨t0, us, rfl, h0, h⟩ := h.cons_inv
  obtain ⟨t1, us, rfl, h1, h⟩ := h.cons_inv
  obtain rfl := h.nil_inv
  obtain ⟨x0, rfl⟩ := h0.str_inv
  obtain ⟨x1, rfl⟩ := h1.int_inv
  exact ⟨⟨x0, x1⟩, rfl⟩

structure CauseS where
  unit : ByteArray
  needs : List ReportS
  save : List ByteArray
def kCause : Knd CauseS := ⟨3, fun x => [.leaf (.string x.unit), rowOf kReport x.needs, rowOf strK x.save], fun _ => rfl, by decide⟩
abbrev tCause : List Ty := [.str, .row tReport, .row strT]
theorem iCause (ts : List Tr) (h : OfAll tCause ts) : ∃ x, ts = kCause.enc x := by
  obtain ⟨t0, us, rfl, h0, h⟩ := h.cons_inv
  obtain ⟨t1, us, rfl, h1, h⟩ := h.cons_inv
  obtain ⟨t2, us, rfl, h2, h⟩ := h.cons_inv
  obtain rfl := h.nil_inv
  obtain ⟨x0, rfl⟩ := h0.str_inv
  obtain ⟨x1, rfl⟩ := Of.row_inv (k := kReport) rfl iReport h1
  obtain ⟨x2, rfl⟩ := Of.row_inv (k := strK) rfl strI h2
  exact ⟨⟨x0, x1, x2⟩, rfl⟩

structure VersionS where
  a : ByteArray
  va : Int
  b : ByteArray
  vb : Int
def kVersion : Knd VersionS := ⟨4, fun x => [.leaf (.string x.a), .leaf (.int .i64 x.va), .leaf (.string x.b), .leaf (.int .i64 x.vb)], fun _ => rfl, by decide⟩
abbrev tVersion : List Ty := [.str, .int .i64, .str, .int .i64]
theorem iVersion (ts : List Tr) (h : OfAll tVersion ts) : ∃ x, ts = kVersion.enc x := by
  obtain ⟨t0, us, rfl, h0, h⟩ := h.cons_inv
  obtain ⟨t1, us, rfl, h1, h⟩ := h.cons_inv
  obtain ⟨t2, us, rfl, h2, h⟩ := h.cons_inv
  obtain ⟨t3, us, rfl, h3, h⟩ := h.cons_inv
  obtain rfl := h.nil_inv
  obtain ⟨x0, rfl⟩ := h0.str_inv
  obtain ⟨x1, rfl⟩ := h1.int_inv
  obtain ⟨x2, rfl⟩ := h2.str_inv
  obtain ⟨x3, rfl⟩ := h3.int_inv
  exact ⟨⟨x0, x1, x2, x3⟩, rfl⟩

structure ConfigS where
  modules : List ModuleS
  channels : List ChannelS
  switches : List SwitchS
  links : List LinkS
  vls : List VLS
  health : List HealthS
  causes : List CauseS
  versions : List VersionS
def kConfig : Knd ConfigS := ⟨8, fun x => [rowOf kModule x.modules, rowOf kChannel x.channels, rowOf kSwitch x.switches, rowOf kLink x.links, rowOf kVL x.vls, rowOf kHealth x.health, rowOf kCause x.causes, rowOf kVersion x.versions], fun _ => rfl, by decide⟩
abbrev tConfig : List Ty := [.row tModule, .row tChannel, .row tSwitch, .row tLink, .row tVL, .row tHealth, .row tCause, .row tVersion]
theorem iConfig (ts : List Tr) (h : OfAll tConfig ts) : ∃ x, ts = kConfig.enc x := by
  obtain ⟨t0, us, rfl, h0, h⟩ := h.cons_inv
  obtain ⟨t1, us, rfl, h1, h⟩ := h.cons_inv
  obtain ⟨t2, us, rfl, h2, h⟩ := h.cons_inv
  obtain ⟨t3, us, rfl, h3, h⟩ := h.cons_inv
  obtain ⟨t4, us, rfl, h4, h⟩ := h.cons_inv
  obtain ⟨t5, us, rfl, h5, h⟩ := h.cons_inv
  obtain ⟨t6, us, rfl, h6, h⟩ := h.cons_inv
  obtain ⟨t7, us, rfl, h7, h⟩ := h.cons_inv
  obtain rfl := h.nil_inv
  obtain ⟨x0, rfl⟩ := Of.row_inv (k := kModule) rfl iModule h0
  obtain ⟨x1, rfl⟩ := Of.row_inv (k := kChannel) rfl iChannel h1
  obtain ⟨x2, rfl⟩ := Of.row_inv (k := kSwitch) rfl iSwitch h2
  obtain ⟨x3, rfl⟩ := Of.row_inv (k := kLink) rfl iLink h3
  obtain ⟨x4, rfl⟩ := Of.row_inv (k := kVL) rfl iVL h4
  obtain ⟨x5, rfl⟩ := Of.row_inv (k := kHealth) rfl iHealth h5
  obtain ⟨x6, rfl⟩ := Of.row_inv (k := kCause) rfl iCause h6
  obtain ⟨x7, rfl⟩ := Of.row_inv (k := kVersion) rfl iVersion h7
  exact ⟨⟨x0, x1, x2, x3, x4, x5, x6, x7⟩, rfl⟩

end Tre
end Go.Proofs.Ytdhofaiogbpjpaa
