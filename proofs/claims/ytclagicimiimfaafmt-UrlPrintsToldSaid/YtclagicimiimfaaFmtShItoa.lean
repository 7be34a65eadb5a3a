/- The library's contracts that are leant on, laid at this program's numbers. -/
import Derived.Shelf.LaysM
import Derived.Shelf.Strconv.Itoa3
import Derived.Lib.AppendIntMem
import Derived.Lib.SmallJoins
import Derived.Test.YtclagicimiimfaaFmtBase
namespace Go.Proofs.YtclagicimiimfaaFmt
open Go.Shelf Go.RowKit
def laysM171_ren : Go.Shelf.Ren := ⟨fun | 171 => 12 | 243 => 16 | 246 => 18 | 283 => 19 | 284 => 20 | 285 => 21 | 286 => 22 | 129 => 24 | 317 => 23 | 318 => 25 | 319 => 26 | 320 => 27 | 337 => 28 | 338 => 29 | n => n, fun | 3 => 3 | 9 => 9 | 2 => 2 | 4 => 4 | 171 => 42 | 0 => 0 | 53 => 43 | 37 => 40 | 5 => 5 | 173 => 46 | 212 => 49 | 51 => 50 | 20 => 20 | 213 => 51 | 46 => 53 | 232 => 56 | 233 => 57 | n => n, fun | 17 => 1 | 18 => 2 | 19 => 3 | n => n⟩
theorem laysM171 : Go.Proofs.LaysM.n171 Tryf.prog laysM171_ren := {
  mixed := by kernel_rfl
  f129 := Tryf.func24.trans (congrArg some (by kernel_rfl))
  f171 := Tryf.func12.trans (congrArg some (by kernel_rfl))
  f243 := Tryf.func16.trans (congrArg some (by kernel_rfl))
  f246 := Tryf.func18.trans (congrArg some (by kernel_rfl))
  f283 := Tryf.func19.trans (congrArg some (by kernel_rfl))
  f284 := Tryf.func20.trans (congrArg some (by kernel_rfl))
  f285 := Tryf.func21.trans (congrArg some (by kernel_rfl))
  f286 := Tryf.func22.trans (congrArg some (by kernel_rfl))
  f317 := Tryf.func23.trans (congrArg some (by kernel_rfl))
  f318 := Tryf.func25.trans (congrArg some (by kernel_rfl))
  f319 := Tryf.func26.trans (congrArg some (by kernel_rfl))
  f320 := Tryf.func27.trans (congrArg some (by kernel_rfl))
  f337 := Tryf.func28.trans (congrArg some (by kernel_rfl))
  f338 := Tryf.func29.trans (congrArg some (by kernel_rfl))
  t0 := Tryf.underlying0
  a0 := Tryf.isAgg0
  z0 := Tryf.sizeOf0
  v0 := Tryf.zeroValue0
  t2 := Tryf.underlying2
  a2 := Tryf.isAgg2
  z2 := Tryf.sizeOf2
  v2 := Tryf.zeroValue2
  t3 := Tryf.underlying3
  a3 := Tryf.isAgg3
  z3 := Tryf.sizeOf3
  v3 := Tryf.zeroValue3
  t4 := Tryf.underlying4
  a4 := Tryf.isAgg4
  z4 := Tryf.sizeOf4
  v4 := Tryf.zeroValue4
  t5 := Tryf.underlying5
  a5 := Tryf.isAgg5
  z5 := Tryf.sizeOf5
  v5 := Tryf.zeroValue5
  t9 := Tryf.underlying9
  a9 := Tryf.isAgg9
  z9 := Tryf.sizeOf9
  v9 := Tryf.zeroValue9
  t20 := Tryf.underlying20
  a20 := Tryf.isAgg20
  z20 := Tryf.sizeOf20
  v20 := Tryf.zeroValue20
  t37 := Tryf.underlying40
  a37 := Tryf.isAgg40
  z37 := Tryf.sizeOf40
  v37 := Tryf.zeroValue40
  t46 := Tryf.underlying53
  a46 := Tryf.isAgg53
  z46 := Tryf.sizeOf53
  v46 := Tryf.zeroValue53
  t51 := Tryf.underlying50
  a51 := Tryf.isAgg50
  z51 := Tryf.sizeOf50
  v51 := Tryf.zeroValue50
  t53 := Tryf.underlying43
  a53 := Tryf.isAgg43
  z53 := Tryf.sizeOf43
  v53 := Tryf.zeroValue43
  t171 := Tryf.underlying42
  a171 := Tryf.isAgg42
  z171 := Tryf.sizeOf42
  v171 := Tryf.zeroValue42
  t173 := Tryf.underlying46
  a173 := Tryf.isAgg46
  z173 := Tryf.sizeOf46
  v173 := Tryf.zeroValue46
  t212 := Tryf.underlying49
  a212 := Tryf.isAgg49
  z212 := Tryf.sizeOf49
  v212 := Tryf.zeroValue49
  t213 := Tryf.underlying51
  a213 := Tryf.isAgg51
  z213 := Tryf.sizeOf51
  t232 := Tryf.underlying56
  a232 := Tryf.isAgg56
  z232 := Tryf.sizeOf56
  v232 := Tryf.zeroValue56
  t233 := Tryf.underlying57
  a233 := Tryf.isAgg57
  z233 := Tryf.sizeOf57
  v233 := Tryf.zeroValue57
  g17 := by kernel_rfl
  g18 := by kernel_rfl
  g19 := by kernel_rfl
  i0 := by kernel_rfl
  i2 := by kernel_rfl
  i3 := by kernel_rfl
  i4 := by kernel_rfl
  i5 := by kernel_rfl
  i9 := by kernel_rfl
  i20 := by kernel_rfl
  i37 := by kernel_rfl
  i46 := by kernel_rfl
  i51 := by kernel_rfl
  i53 := by kernel_rfl
  i171 := by kernel_rfl
  i173 := by kernel_rfl
  i212 := by kernel_rfl
  i232 := by kernel_rfl
  i233 := by kernel_rfl
  m17 := by kernel_rfl
  m18 := by kernel_rfl
  m19 := by kernel_rfl }
theorem itoa_any (n : Int) (h0 : -9223372036854775808 ≤ n) (h1 : n ≤ 9223372036854775807) (w : World) (htab : Lib.TabIs Tryf.prog w "internal/strconv.uint64pow10" .u64 Lib.pow10Tab) :
    Calls Tryf.prog 12 #[.int .i64 n] w fun e w' => e = .returned (.string (bs (Lib.itoa n))) ∧ Below w.heap.size w w' := by
  refine (Any.strconv_Itoa laysM171 n h0 h1 w htab).mono ?_
  rintro e w' ⟨rfl, k, os, rfl⟩
  exact ⟨rfl, Lib.below_grow _ w (Nat.le_refl _) k os⟩
end Go.Proofs.YtclagicimiimfaaFmt
