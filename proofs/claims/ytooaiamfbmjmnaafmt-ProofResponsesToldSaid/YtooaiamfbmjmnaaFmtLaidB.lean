/- What the library's table holds, by what the row lays. -/
import Derived.Test.YtooaiamfbmjmnaaFmtFib
import Derived.Lib.LaidU8
namespace Go.Proofs.YtooaiamfbmjmnaaFmt
open Go.RowKit

def bruijnL : List Int := [0, 1, 56, 2, 57, 49, 28, 3, 61, 58, 42, 50, 38, 29, 17, 4, 62, 47, 59, 36, 45, 43, 51, 22, 53, 39, 33, 30, 24, 18, 12, 5, 63, 55, 48, 27, 60, 41, 37, 16, 46, 35, 44, 21, 52, 32, 23, 11, 54, 26, 40, 15, 34, 20, 31, 10, 25, 14, 19, 9, 13, 8, 7, 6]
theorem bruijn_laid {W : World} (h : Lib.VarReads Tryf.prog W "math/bits.deBruijn64tab" Rows.laid_math_bits_deBruijn64tab) : Bruijn W := by
  have hc : W.cell? ⟨7, 15, none⟩ = some (.int .u8 4) := by
    have h' : Lib.VarReads Tryf.prog W "math/bits.deBruijn64tab" (Lib.tabData .u8 bruijnL) := h
    obtain ⟨g', t', cs, fuel, p, hg, hty', hvar, hd⟩ := h'
    have hn : Tryf.prog.globalNamed "math/bits.deBruijn64tab" = some 7 := by kernel_rfl
    have hty : (Tryf.prog.globals[7]?).map (·.type) = some 99 := by kernel_rfl
    obtain rfl := Option.some.inj (hn.symm.trans hg)
    obtain rfl := Option.some.inj (hty.symm.trans hty')
    have hcs := Lib.cells_of_tab Tryf.underlying99 Tryf.underlying5 (by kernel_rfl) (by kernel_rfl) hd
    have := World.var?_cell hg hvar 15
    rw [this, ← Array.getElem?_toList, hcs]
    rfl
  refine ⟨hc, ?_⟩
  rcases Nat.lt_or_ge 7 W.heap.size with hl | hl
  · exact hl
  · simp [World.cell?, Array.getElem?_eq_none hl] at hc
end Go.Proofs.YtooaiamfbmjmnaaFmt
