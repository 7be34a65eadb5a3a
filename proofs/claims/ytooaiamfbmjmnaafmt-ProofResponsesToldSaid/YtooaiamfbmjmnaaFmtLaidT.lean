/- What the tables hold, by what the row lays. -/
import Derived.Test.YtooaiamfbmjmnaaFmtArr
import Derived.Lib.LaidU8
namespace Go.Proofs.YtooaiamfbmjmnaaFmt
open Go.RowKit

theorem lt_of_cell {W : World} {g i : Nat} {v : Value} (h : W.cell? ⟨g, i, none⟩ = some v) : g < W.heap.size := by
  rcases Nat.lt_or_ge g W.heap.size with hl | hl
  · exact hl
  · simp [World.cell?, Array.getElem?_eq_none hl] at h
theorem tab_at {W : World} (name : String) (g t e n : Nat) (k : IntKind) (zs : List Int) (hn : Tryf.prog.globalNamed name = some g) (hty : (Tryf.prog.globals[g]?).map (·.type) = some t) (ht : Tryf.prog.underlying t = some (.array n e)) (he : Tryf.prog.underlying e = some (.int k))
    (hce : Tryf.prog.cellsOf e = 1) (hct : Tryf.prog.cellsOf t = n) (h : Lib.VarReads Tryf.prog W name (Lib.tabData k zs)) (i : Nat) (z : Int) (hz : zs[i]? = some z) : W.cell? ⟨g, i, none⟩ = some (.int k z) := by
  obtain ⟨g', t', cs, fuel, p, hg, hty', hvar, hd⟩ := h
  obtain rfl := Option.some.inj (hn.symm.trans hg)
  obtain rfl := Option.some.inj (hty.symm.trans hty')
  have hcs := Lib.cells_of_tab ht he hce hct hd
  have := World.var?_cell hg hvar i
  rw [this, ← Array.getElem?_toList, hcs]
  simp [hz]
theorem cast_at (l : List Nat) (i : Nat) (h : i < l.length) : (l.map fun (n : Nat) => (n : Int))[i]? = some ((l.getD i 0 : Nat) : Int) := by
  simp [h]
theorem sines_laid {W : World} (h : Lib.VarReads Tryf.prog W "gatepost/api.Sines" Rows.laid_gatepost_api_Sines) : Sines W := by
  have hc := fun i (hi : i < 64) => tab_at "gatepost/api.Sines" 2 52 47 64 .u32 (sinesL.map fun (n : Nat) => (n : Int)) (by kernel_rfl) (by kernel_rfl) Tryf.underlying52 Tryf.underlying47 (by kernel_rfl) (by kernel_rfl) h i _ (cast_at sinesL i hi)
  exact ⟨hc, lt_of_cell (hc 0 (by omega))⟩
theorem roots_laid {W : World} (h : Lib.VarReads Tryf.prog W "gatepost/api.Roots" Rows.laid_gatepost_api_Roots) : Roots W := by
  have hc := fun i (hi : i < 64) => tab_at "gatepost/api.Roots" 1 52 47 64 .u32 (rootsL.map fun (n : Nat) => (n : Int)) (by kernel_rfl) (by kernel_rfl) Tryf.underlying52 Tryf.underlying47 (by kernel_rfl) (by kernel_rfl) h i _ (cast_at rootsL i hi)
  exact ⟨hc, lt_of_cell (hc 0 (by omega))⟩
theorem begin_laid {W : World} (h : Lib.VarReads Tryf.prog W "gatepost/api.Begin" Rows.laid_gatepost_api_Begin) : Begin W := by
  have hc := fun i (hi : i < 8) => tab_at "gatepost/api.Begin" 0 48 47 8 .u32 (beginL.map fun (n : Nat) => (n : Int)) (by kernel_rfl) (by kernel_rfl) Tryf.underlying48 Tryf.underlying47 (by kernel_rfl) (by kernel_rfl) h i _ (cast_at beginL i hi)
  exact ⟨hc, lt_of_cell (hc 0 (by omega))⟩
def rowT (i : Nat) : List Int := [((turnsL.getD (i * 4) 0 : Nat) : Int), ((turnsL.getD (i * 4 + 1) 0 : Nat) : Int), ((turnsL.getD (i * 4 + 2) 0 : Nat) : Int), ((turnsL.getD (i * 4 + 3) 0 : Nat) : Int)]
theorem turns_data : (Rows.laid_gatepost_sum_turns : DataW Unit) = .agg [Lib.tabData .i64 (rowT 0), Lib.tabData .i64 (rowT 1), Lib.tabData .i64 (rowT 2), Lib.tabData .i64 (rowT 3)] := rfl
theorem turns_laid {W : World} (h : Lib.VarReads Tryf.prog W "gatepost/sum.turns" Rows.laid_gatepost_sum_turns) : Turns W := by
  have hc : ∀ q r, q < 4 → r < 4 → W.cell? ⟨3, q * 4 + r, none⟩ = some (.int .i64 ((turnsL.getD (q * 4 + r) 0 : Nat) : Int)) := by
    intro q r hq hr
    obtain ⟨g', t', cs, fuel, p, hg, hty, hvar, hd⟩ := h
    have hn : Tryf.prog.globalNamed "gatepost/sum.turns" = some 3 := by kernel_rfl
    have ht : (Tryf.prog.globals[3]?).map (·.type) = some 78 := by kernel_rfl
    obtain rfl := Option.some.inj (hn.symm.trans hg)
    obtain rfl := Option.some.inj (ht.symm.trans hty)
    rw [turns_data] at hd
    obtain ⟨fuel', d, q', hdi, he⟩ := Lib.array_elem Tryf.underlying78 hd q hq
    have h4 : Tryf.prog.cellsOf 77 = 4 := by kernel_rfl
    have h1 : Tryf.prog.cellsOf 3 = 1 := by kernel_rfl
    rw [h4] at he
    have hd2 : d = Lib.tabData .i64 (rowT q) := by
      obtain rfl | rfl | rfl | rfl : q = 0 ∨ q = 1 ∨ q = 2 ∨ q = 3 := by omega
      all_goals (simp at hdi; exact hdi.symm)
    subst hd2
    have hcs := Lib.cells_of_tab Tryf.underlying77 Tryf.underlying3 h1 h4 he
    have e := congrArg (·[r]?) hcs
    have := World.var?_cell hg hvar (q * 4 + r)
    rw [this, ← Array.getElem?_toList]
    simp only [List.getElem?_take, List.getElem?_drop, if_pos hr] at e
    rw [e]
    obtain rfl | rfl | rfl | rfl : r = 0 ∨ r = 1 ∨ r = 2 ∨ r = 3 := by omega
    all_goals simp [rowT]
  have hc2 : ∀ i, i < 16 → W.cell? ⟨3, i, none⟩ = some (.int .i64 ((turnsL.getD i 0 : Nat) : Int)) := by
    intro i hi
    have := hc (i / 4) (i % 4) (by omega) (by omega)
    have e : i / 4 * 4 + i % 4 = i := by omega
    rwa [e] at this
  exact ⟨hc2, lt_of_cell (hc2 0 (by omega))⟩
end Go.Proofs.YtooaiamfbmjmnaaFmt
