/- The library's search for any of some ASCII bytes in a longer text, laid at this program's numbers. -/
import Derived.Shelf.Strings.IndexAnyAll
import Derived.Test.YtkokdoodaoijoabBase
namespace Go.Proofs.Ytkokdoodaoijoab
open Go.Shelf Go.RowKit
def layRen : Go.Shelf.Ren := ⟨fun | 153 => 17 | 152 => 20 | 226 => 21 | 227 => 22 | 228 => 23 | 137 => 15 | 119 => 26 | 224 => 27 | 225 => 28 | 217 => 19 | 266 => 25 | n => n, fun | 9 => 9 | 3 => 3 | 4 => 4 | 5 => 5 | 21 => 21 | 117 => 40 | 116 => 39 | 0 => 0 | 46 => 30 | 124 => 45 | n => n, fun | n => n⟩
theorem lay153 : Go.Proofs.Lays.n153 Try.prog layRen := {
  mixed := by kernel_rfl
  f119 := Try.func26.trans (congrArg some (by kernel_rfl))
  f137 := Try.func15.trans (congrArg some (by kernel_rfl))
  f152 := Try.func20.trans (congrArg some (by kernel_rfl))
  f153 := Try.func17.trans (congrArg some (by kernel_rfl))
  f217 := Try.func19.trans (congrArg some (by kernel_rfl))
  f224 := Try.func27.trans (congrArg some (by kernel_rfl))
  f225 := Try.func28.trans (congrArg some (by kernel_rfl))
  f226 := Try.func21.trans (congrArg some (by kernel_rfl))
  f227 := Try.func22.trans (congrArg some (by kernel_rfl))
  f228 := Try.func23.trans (congrArg some (by kernel_rfl))
  f266 := Try.func25.trans (congrArg some (by kernel_rfl))
  t0 := Try.underlying0
  a0 := Try.isAgg0
  z0 := Try.sizeOf0
  v0 := Try.zeroValue0
  t3 := Try.underlying3
  a3 := Try.isAgg3
  z3 := Try.sizeOf3
  v3 := Try.zeroValue3
  t4 := Try.underlying4
  a4 := Try.isAgg4
  z4 := Try.sizeOf4
  v4 := Try.zeroValue4
  t5 := Try.underlying5
  a5 := Try.isAgg5
  z5 := Try.sizeOf5
  v5 := Try.zeroValue5
  t9 := Try.underlying9
  a9 := Try.isAgg9
  z9 := Try.sizeOf9
  v9 := Try.zeroValue9
  t21 := Try.underlying21
  a21 := Try.isAgg21
  z21 := Try.sizeOf21
  v21 := Try.zeroValue21
  t46 := Try.underlying30
  a46 := Try.isAgg30
  z46 := Try.sizeOf30
  v46 := Try.zeroValue30
  t116 := Try.underlying39
  a116 := Try.isAgg39
  z116 := Try.sizeOf39
  t117 := Try.underlying40
  a117 := Try.isAgg40
  z117 := Try.sizeOf40
  v117 := Try.zeroValue40
  t124 := Try.underlying45
  a124 := Try.isAgg45
  z124 := Try.sizeOf45
  v124 := Try.zeroValue45 }
theorem setZero (w : World) : (zeroValue 39).run Try.prog w = .ok (.agg (Array.replicate 256 (.bool false))) w := by kernel_rfl
theorem anyLong (s chars : ByteArray) (w : World) (h2 : 2 ≤ chars.size) (h8 : 8 < s.size) (hs : s.size ≤ 1000) (hcs : chars.size ≤ 1000) (hascii : ∀ (j : Nat) b, chars.data.toList[j]? = some b → b.toNat < 128) :
    Calls Try.prog 17 #[.string s, .string chars] w fun e w' => e = .returned (.int .i64 (Lib.indexAny s.data.toList chars.data.toList)) ∧ Below w.heap.size w w' := by
  refine (Any.strings_IndexAny_long lay153 setZero (by kernel_rfl) s chars w h2 h8 (by omega) (by omega) hascii).mono ?_
  rintro e w' ⟨rfl, hw⟩
  refine ⟨rfl, ?_⟩
  rw [hw]
  exact ((Below.refl _ _).alloc (Nat.le_refl _) _).alloc (by simp) _
end Go.Proofs.Ytkokdoodaoijoab
