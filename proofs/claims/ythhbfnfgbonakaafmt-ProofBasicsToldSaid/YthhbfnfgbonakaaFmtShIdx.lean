/- The library's contracts that are leant on, laid at this program's numbers. -/
import Derived.Shelf.Strings.Search2
import Derived.Test.YthhbfnfgbonakaaFmtBase
namespace Go.Proofs.YthhbfnfgbonakaaFmt
open Go.Shelf Go.RowKit
def lays219_ren : Go.Shelf.Ren := ⟨fun | 219 => 37 | 217 => 21 | 225 => 63 | 224 => 64 | 267 => 65 | 266 => 34 | 314 => 89 | n => n, fun | 9 => 9 | 3 => 3 | 4 => 4 | 5 => 5 | 46 => 66 | 146 => 130 | 51 => 76 | n => n, fun | 1 => 3 | n => n⟩
theorem lays219 : Go.Proofs.Lays.n219 Tryf.prog lays219_ren := {
  mixed := by kernel_rfl
  f217 := Tryf.func21.trans (congrArg some (by kernel_rfl))
  f219 := Tryf.func37.trans (congrArg some (by kernel_rfl))
  f224 := Tryf.func64.trans (congrArg some (by kernel_rfl))
  f225 := Tryf.func63.trans (congrArg some (by kernel_rfl))
  f266 := Tryf.func34.trans (congrArg some (by kernel_rfl))
  f267 := Tryf.func65.trans (congrArg some (by kernel_rfl))
  f314 := Tryf.func89.trans (congrArg some (by kernel_rfl))
  t3 := Tryf.underlying3
  a3 := Tryf.isAgg3
  z3 := Tryf.sizeOf3
  v3 := Tryf.zeroValue3
  t4 := Tryf.underlying4
  a4 := Tryf.isAgg4
  z4 := Tryf.sizeOf4
  v4 := Tryf.zeroValue4
  t5 := Tryf.underlying5
  a5 := Tryf.isAgg5
  z5 := Tryf.sizeOf5
  v5 := Tryf.zeroValue5
  t9 := Tryf.underlying9
  a9 := Tryf.isAgg9
  z9 := Tryf.sizeOf9
  v9 := Tryf.zeroValue9
  t46 := Tryf.underlying66
  a46 := Tryf.isAgg66
  z46 := Tryf.sizeOf66
  v46 := Tryf.zeroValue66
  t51 := Tryf.underlying76
  a51 := Tryf.isAgg76
  z51 := Tryf.sizeOf76
  v51 := Tryf.zeroValue76
  t146 := Tryf.underlying130
  a146 := Tryf.isAgg130
  z146 := Tryf.sizeOf130
  v146 := Tryf.zeroValue130
  g1 := by kernel_rfl }
end Go.Proofs.YthhbfnfgbonakaaFmt
