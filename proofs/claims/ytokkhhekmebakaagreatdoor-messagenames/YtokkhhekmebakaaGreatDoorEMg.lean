/-
  A message as plain data: its thirty-seven cells, the one that has nothing; a pass built of it. No condition.
-/
import Derived.Test.YtokkhhekmebakaaGreatDoorECa
namespace Go.Proofs.YtokkhhekmebakaaGreatDoor
open Go.RowKit
set_option linter.unusedVariables false

/-- A list's slice. -/
structure Sl where
  a : Option Addr
  l : Nat
  c : Nat
def Sl.v (s : Sl) : Value := .slice s.a s.l s.c
structure Msg where
  kind : Int
  frm : Int
  to : Int
  epoch : Int
  attempt : Int
  client : Int
  number : Int
  seq : Int
  key : ByteArray
  okind : Int
  okey : ByteArray
  oval : ByteArray
  over : Int
  useq : Int
  ucli : Int
  unum : Int
  ukind : Int
  ukey : ByteArray
  uval : ByteArray
  uver : Int
  code : Int
  rver : Int
  rkey : ByteArray
  rval : ByteArray
  rowv : Int
  found : Bool
  cepoch : Int
  chain : Sl
  level : Int
  buckets : Sl
  digests : Sl
  index : Int
  last : Bool
  pieces : Sl
  ttr : Int
  tseq : Int
  tnext : Int
def Msg.cells (M : Msg) : Array Value := #[.int .i64 M.kind, .int .i64 M.frm, .int .i64 M.to, .int .i64 M.epoch, .int .i64 M.attempt, .int .i64 M.client, .int .i64 M.number, .int .i64 M.seq, .string M.key, .int .i64 M.okind, .string M.okey, .string M.oval, .int .i64 M.over, .int .i64 M.useq, .int .i64 M.ucli, .int .i64 M.unum, .int .i64 M.ukind, .string M.ukey, .string M.uval, .int .i64 M.uver, .int .i64 M.code, .int .i64 M.rver, .string M.rkey, .string M.rval, .int .i64 M.rowv, .bool M.found, .int .i64 M.cepoch, M.chain.v, .int .i64 M.level, M.buckets.v, M.digests.v, .int .i64 M.index, .bool M.last, M.pieces.v, .int .i64 M.ttr, .int .i64 M.tseq, .int .i64 M.tnext]
def zMsg : Msg := ⟨0, 0, 0, 0, 0, 0, 0, 0, ⟨#[]⟩, 0, ⟨#[]⟩, ⟨#[]⟩, 0, 0, 0, 0, 0, ⟨#[]⟩, ⟨#[]⟩, 0, 0, 0, ⟨#[]⟩, ⟨#[]⟩, 0, false, 0, ⟨none, 0, 0⟩, 0, ⟨none, 0, 0⟩, ⟨none, 0, 0⟩, 0, false, ⟨none, 0, 0⟩, 0, 0, 0⟩
theorem Msg.size (M : Msg) : M.cells.size = 37 := rfl
theorem Msg.one (M : Msg) : M.cells.all (·.oneCell') = true := by simp [Msg.cells, Sl.v, Value.oneCell']
theorem infoMsg : (Tryz.prog.info? 49).map (·.size) = some 37 := by kernel_rfl
theorem infoPass : (Tryz.prog.info? 117).map (·.size) = some 76 := by kernel_rfl
theorem infoErrE : (Tryz.prog.info? 51).map (·.size) = some 1 := by kernel_rfl
set_option maxRecDepth 20000 in
theorem zero_msg (W : World) : (zeroValue 49).run Tryz.prog W = .ok (.agg zMsg.cells) W := Tryz.zeroValue49 W
set_option maxRecDepth 20000 in
theorem build_pass (M : Msg) (o : Option Addr) (W : World) : (Instr.build 117 #[(0, .agg M.cells), (3, .pointer o)]).run Tryz.prog W = .ok (.agg (M.cells ++ zMsg.cells ++ #[.pointer none, .pointer o])) W := by
  kernel_rfl
end Go.Proofs.YtokkhhekmebakaaGreatDoor
