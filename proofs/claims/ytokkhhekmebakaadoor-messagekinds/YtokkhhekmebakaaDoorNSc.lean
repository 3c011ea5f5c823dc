/-
  The library search of a text within a text, as it lies in this program: the numbers of its functions and types. No condition.
-/
import Derived.Shelf.Strings.Search3
import Derived.Ground.NamesProg
import Derived.Test.YtokkhhekmebakaaDoorProg
namespace Go.Proofs
open Go.Shelf
def Tryd.cont_ren : Go.Shelf.Ren := ⟨fun | 144 => 9 | 143 => 11 | 219 => 12 | 217 => 13 | 225 => 14 | 224 => 15 | 267 => 16 | 266 => 17 | 314 => 18 | n => n, fun | 9 => 9 | 4 => 4 | 3 => 3 | 5 => 5 | 46 => 39 | 146 => 41 | 51 => 40 | n => n, fun | 1 => 1 | n => n⟩
theorem Tryd.cont : Go.Proofs.Lays.n144 Tryd.prog Tryd.cont_ren := {
  mixed := by kernel_rfl
  f143 := Tryd.func11.trans (congrArg some (by kernel_rfl))
  f144 := Tryd.func9.trans (congrArg some (by kernel_rfl))
  f217 := Tryd.func13.trans (congrArg some (by kernel_rfl))
  f219 := Tryd.func12.trans (congrArg some (by kernel_rfl))
  f224 := Tryd.func15.trans (congrArg some (by kernel_rfl))
  f225 := Tryd.func14.trans (congrArg some (by kernel_rfl))
  f266 := Tryd.func17.trans (congrArg some (by kernel_rfl))
  f267 := Tryd.func16.trans (congrArg some (by kernel_rfl))
  f314 := Tryd.func18.trans (congrArg some (by kernel_rfl))
  t3 := Tryd.underlying3
  a3 := Tryd.isAgg3
  z3 := Tryd.sizeOf3
  v3 := Tryd.zeroValue3
  t4 := Tryd.underlying4
  a4 := Tryd.isAgg4
  z4 := Tryd.sizeOf4
  v4 := Tryd.zeroValue4
  t5 := Tryd.underlying5
  a5 := Tryd.isAgg5
  z5 := Tryd.sizeOf5
  v5 := Tryd.zeroValue5
  t9 := Tryd.underlying9
  a9 := Tryd.isAgg9
  z9 := Tryd.sizeOf9
  v9 := Tryd.zeroValue9
  t46 := Tryd.underlying39
  a46 := Tryd.isAgg39
  z46 := Tryd.sizeOf39
  v46 := Tryd.zeroValue39
  t51 := Tryd.underlying40
  a51 := Tryd.isAgg40
  z51 := Tryd.sizeOf40
  v51 := Tryd.zeroValue40
  t146 := Tryd.underlying41
  a146 := Tryd.isAgg41
  z146 := Tryd.sizeOf41
  v146 := Tryd.zeroValue41
  g1 := by kernel_rfl }
end Go.Proofs
