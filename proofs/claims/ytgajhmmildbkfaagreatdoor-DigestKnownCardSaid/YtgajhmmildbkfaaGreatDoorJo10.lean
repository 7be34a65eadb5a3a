/- Texts of one claim, joined: each begins with what it proves. -/
import Derived.Test.YtgajhmmildbkfaaGreatDoorJo2
import Derived.Test.YtgajhmmildbkfaaGreatDoorJo9
/- The tables that a proof reads, by what the row lays. -/
namespace Go.Proofs.YtgajhmmildbkfaaGreatDoor
open Go.RowKit

theorem tabs_laid {W : World} (h0 : Lib.VarReads Tryz.prog W "math/bits.deBruijn64tab" Rows.laid_math_bits_deBruijn64tab) (h1 : Lib.VarReads Tryz.prog W "gatepost/api.Sines" Rows.laid_gatepost_api_Sines) (h2 : Lib.VarReads Tryz.prog W "gatepost/api.Roots" Rows.laid_gatepost_api_Roots)
    (h3 : Lib.VarReads Tryz.prog W "gatepost/api.Begin" Rows.laid_gatepost_api_Begin) (h4 : Lib.VarReads Tryz.prog W "gatepost/sum.turns" Rows.laid_gatepost_sum_turns) : Tabs W :=
  ⟨sines_laid h1, turns_laid h4, begin_laid h3, roots_laid h2, bruijn_laid h0⟩
end Go.Proofs.YtgajhmmildbkfaaGreatDoor
