/- Texts of one claim, joined: each begins with what it proves. -/
import Derived.Test.YtgajhmmildbkfaaGreatFmtJo5
import Derived.Test.YtgajhmmildbkfaaGreatFmtJo2
import Derived.Test.YtgajhmmildbkfaaGreatFmtJo1
import Derived.LaidMore
import Derived.LaidHandle
import Derived.Lib.LaidU8
/- An error held against its bare number. -/
namespace Go.Proofs.YtgajhmmildbkfaaGreatFmt
open Go.RowKit

set_option maxHeartbeats 800000 in
theorem bare_no (n : Int) (w : World) (hg : ErrT w) : Calls Tryz.prog 7 #[.iface 28 (.int .i64 n), .int .i64 n] w fun e w' => e = .returned (.bool true) ∧ Below w.heap.size w w' := by
  go_enter Tryz.func7, Tryz.ntmps7
  go_wp2_with (go_at_call 20; refine (place_no n _ hg).mono ?_; rintro e w1 ⟨rfl, hb⟩)
  go_ret
  exact ⟨rfl, hb⟩
end Go.Proofs.YtgajhmmildbkfaaGreatFmt

/- The law ProofDigests, walked. -/
namespace Go.Proofs.YtgajhmmildbkfaaGreatFmt
open Go.RowKit
open Go.Extern.Stop Go.Stop Go.Extern
set_option linter.unusedVariables false

set_option maxRecDepth 100000 in
set_option maxHeartbeats 4000000 in
theorem digests_walk (F : Interp) (a : PfA) (st : Bool) (dv : Value) (za : AskZ a) (u p : ByteArray) (zc : CredZ u p) (m : ByteArray) (zm : m.size ≤ 140737488355328) (t : ByteArray) (zt : t.size ≤ 140737488355328) (b : ByteArray) (zb : b.size ≤ 140737488355328) (c : ByteArray) (zn : c.size ≤ 140737488355328)
    (n : Int) (_n0 : -9223372036854775808 ≤ n) (n1 : n ≤ 9223372036854775807) (w : World) (hF : F.told.answers w.tape) (HT : Hid (Tabs w)) (hg : ErrT w) :
    Calls Tryz.prog 3 #[.agg #[.int .i64 a.scheme, .string a.realm, .string a.nonce, .string a.opq, .bool a.sess, .string a.qop, .bool st, dv], .agg #[.string u, .string p], .string m, .string t, .string b, .string c, .int .i64 n] w fun e w' => e = .returned (.bool true) ∧ Below w.heap.size w w' := by
  have HFT : Hid (F.told.answers w.tape) := hF
  have HG : Hid (ErrT w) := hg
  have HK0 : Hid (AcK w ((w.alloc (.cells #[.int .i64 a.scheme, .string a.realm, .string a.nonce, .string a.opq, .bool a.sess, .string a.qop, .bool st, dv] 24)).alloc (.cells #[.string u, .string p] 26)) a st dv u p) := acK_start w a st dv u p HT
  have hlg := fun w => long_any a st dv za u p zc m t b c zm zt zb zn w
  clear hF hg zm zt zb zn za zc
  obtain ⟨c0, c1, c2, c3, c4, c5, c6, c7, d0, d1, _, _, _⟩ := HK0.out
  go_enter Tryz.func3, Tryz.ntmps3
  go_wp2_with fail
  refine (hlg _).mono ?_
  rintro e w1 ⟨rfl, hb1⟩
  have HK1 : Hid (AcK w w1 a st dv u p) := HK0.out.below hb1
  clear hb1 HK0 c0 c1 c2 c3 c4 c5 c6 c7 d0 d1 hlg
  cases hlo : longB a u p m t b c
  · have hfit : Fits a ⟨u, p, m, t, b, c⟩ ∧ a.opq.size ≤ 500 := by
      have h := of_decide_eq_false hlo
      unfold Fits
      simp only
      omega
    have r1 := fun w HT => dig_any a ⟨u, p, m, t, b, c⟩ st dv n hfit.1 hfit.2 w HT
    have r2 := fun w hF HT => refDig_any F a ⟨u, p, m, t, b, c⟩ st dv n hfit.1 hfit.2 w hF HT
    simp only at r1 r2
    generalize digO a ⟨u, p, m, t, b, c⟩ n = D at r1 r2
    clear hfit hlo
    obtain ⟨c0, c1, c2, c3, c4, c5, c6, c7, d0, d1, _, _, _⟩ := HK1.out
    cases D with
    | ok l =>
      simp only [digV, refV] at r1 r2
      generalize bs l = X at r1 r2
      go_wp2_with fail
      refine (r2 _ (by rw [HK1.out.bel.tape]; exact HFT.out) HK1.out.tabs).mono ?_
      rintro e w2 ⟨rfl, hb2⟩
      have HK2 : Hid (AcK w w2 a st dv u p) := HK1.out.below hb2
      clear hb2 HK1 c0 c1 c2 c3 c4 c5 c6 c7 d0 d1 r2
      obtain ⟨c0, c1, c2, c3, c4, c5, c6, c7, d0, d1, _, _, _⟩ := HK2.out
      go_wp2_with fail
      refine (r1 _ HK2.out.tabs).mono ?_
      rintro e w3 ⟨rfl, hb3⟩
      have HK3 : Hid (AcK w w3 a st dv u p) := HK2.out.below hb3
      clear hb3 HK2 c0 c1 c2 c3 c4 c5 c6 c7 d0 d1 r1
      go_wp2_with fail
      refine (bare_nil _).mono ?_
      rintro e w4 ⟨rfl, hb4⟩
      have HK4 : Hid (AcK w w4 a st dv u p) := HK3.out.below hb4
      clear hb4 HK3
      go_wp2
      go_ret
      exact ⟨by first | rfl | simp, HK4.out.bel⟩
    | error k =>
      simp only [digV, refV] at r1 r2
      go_wp2_with fail
      refine (r2 _ (by rw [HK1.out.bel.tape]; exact HFT.out) HK1.out.tabs).mono ?_
      rintro e w2 ⟨rfl, hb2⟩
      have HK2 : Hid (AcK w w2 a st dv u p) := HK1.out.below hb2
      clear hb2 HK1 c0 c1 c2 c3 c4 c5 c6 c7 d0 d1 r2
      obtain ⟨c0, c1, c2, c3, c4, c5, c6, c7, d0, d1, _, _, _⟩ := HK2.out
      go_wp2_with fail
      refine (r1 _ HK2.out.tabs).mono ?_
      rintro e w3 ⟨rfl, hb3⟩
      have HK3 : Hid (AcK w w3 a st dv u p) := HK2.out.below hb3
      clear hb3 HK2 c0 c1 c2 c3 c4 c5 c6 c7 d0 d1 r1
      go_wp2_with fail
      refine (bare_no (k : Int) _ (HG.out.below HK3.out.bel)).mono ?_
      rintro e w4 ⟨rfl, hb4⟩
      have HK4 : Hid (AcK w w4 a st dv u p) := HK3.out.below hb4
      clear hb4 HK3
      go_wp2
      go_ret
      exact ⟨by first | rfl | simp, HK4.out.bel⟩
  · go_wp2
    go_ret
    exact ⟨rfl, HK1.out.bel⟩
end Go.Proofs.YtgajhmmildbkfaaGreatFmt

/- What the row lays of the library's own variable is what errors.As asks for. -/
namespace Go.Proofs.YtgajhmmildbkfaaGreatFmt
open Go.RowKit

theorem etAt : Tryz.prog.globalNamed "errors.errorType" = some 3 := by kernel_rfl
theorem rtAt : (Tryz.prog.cutTypes.find? (·.1 == "internal/reflectlite.rtype")).map (·.2) = some 140 := by kernel_rfl
theorem oneError : ((List.range Tryz.prog.types.size).filter fun t => Tryz.prog.rowNamed t [101, 114, 114, 111, 114]) = [32] := by kernel_rfl
theorem errT_of_handles {W : World} (h : handlesMet Tryz.prog [("errors.errorType", Rows.laid_errors_errorType)] W) : ErrT W := by
  obtain ⟨name, u, ty, e1, e2, e3, e4, e5⟩ := h _ (List.mem_singleton.2 rfl)
  have en : name = [101, 114, 114, 111, 114] := (Option.some.inj e1).symm
  subst en
  obtain rfl := Option.some.inj (rtAt.symm.trans e2)
  have hm : ty ∈ (List.range Tryz.prog.types.size).filter fun t => Tryz.prog.rowNamed t [101, 114, 114, 111, 114] := List.mem_filter.2 ⟨List.mem_range.2 e3, e4⟩
  rw [oneError] at hm
  obtain rfl := List.mem_singleton.1 hm
  have hh : typeHandle Tryz.prog 32 = .pointer (some ⟨9, 32, none⟩) := by kernel_rfl
  rw [hh] at e5
  have hc : W.cell? ⟨3, 0, none⟩ = some (.iface 140 (.agg #[.pointer (some ⟨9, 32, none⟩)])) := by
    simpa using World.var?_cell etAt e5 0
  refine ⟨hc, ?_⟩
  rcases Nat.lt_or_ge 3 W.heap.size with h | h
  · exact h
  · simp [World.cell?, Array.getElem?_eq_none h] at hc
end Go.Proofs.YtgajhmmildbkfaaGreatFmt

/- What the library's table holds, by what the row lays. -/
namespace Go.Proofs.YtgajhmmildbkfaaGreatFmt
open Go.RowKit

def bruijnL : List Int := [0, 1, 56, 2, 57, 49, 28, 3, 61, 58, 42, 50, 38, 29, 17, 4, 62, 47, 59, 36, 45, 43, 51, 22, 53, 39, 33, 30, 24, 18, 12, 5, 63, 55, 48, 27, 60, 41, 37, 16, 46, 35, 44, 21, 52, 32, 23, 11, 54, 26, 40, 15, 34, 20, 31, 10, 25, 14, 19, 9, 13, 8, 7, 6]
theorem bruijn_laid {W : World} (h : Lib.VarReads Tryz.prog W "math/bits.deBruijn64tab" Rows.laid_math_bits_deBruijn64tab) : Bruijn W := by
  have hc : W.cell? ⟨8, 15, none⟩ = some (.int .u8 4) := by
    have h' : Lib.VarReads Tryz.prog W "math/bits.deBruijn64tab" (Lib.tabData .u8 bruijnL) := h
    obtain ⟨g', t', cs, fuel, p, hg, hty', hvar, hd⟩ := h'
    have hn : Tryz.prog.globalNamed "math/bits.deBruijn64tab" = some 8 := by kernel_rfl
    have hty : (Tryz.prog.globals[8]?).map (·.type) = some 153 := by kernel_rfl
    obtain rfl := Option.some.inj (hn.symm.trans hg)
    obtain rfl := Option.some.inj (hty.symm.trans hty')
    have hcs := Lib.cells_of_tab Tryz.underlying153 Tryz.underlying5 (by kernel_rfl) (by kernel_rfl) hd
    have := World.var?_cell hg hvar 15
    rw [this, ← Array.getElem?_toList, hcs]
    rfl
  refine ⟨hc, ?_⟩
  rcases Nat.lt_or_ge 8 W.heap.size with hl | hl
  · exact hl
  · simp [World.cell?, Array.getElem?_eq_none hl] at hc
end Go.Proofs.YtgajhmmildbkfaaGreatFmt

/- What the tables hold, by what the row lays. -/
namespace Go.Proofs.YtgajhmmildbkfaaGreatFmt
open Go.RowKit

theorem lt_of_cell {W : World} {g i : Nat} {v : Value} (h : W.cell? ⟨g, i, none⟩ = some v) : g < W.heap.size := by
  rcases Nat.lt_or_ge g W.heap.size with hl | hl
  · exact hl
  · simp [World.cell?, Array.getElem?_eq_none hl] at h
theorem tab_at {W : World} (name : String) (g t e n : Nat) (k : IntKind) (zs : List Int) (hn : Tryz.prog.globalNamed name = some g) (hty : (Tryz.prog.globals[g]?).map (·.type) = some t) (ht : Tryz.prog.underlying t = some (.array n e)) (he : Tryz.prog.underlying e = some (.int k))
    (hce : Tryz.prog.cellsOf e = 1) (hct : Tryz.prog.cellsOf t = n) (h : Lib.VarReads Tryz.prog W name (Lib.tabData k zs)) (i : Nat) (z : Int) (hz : zs[i]? = some z) : W.cell? ⟨g, i, none⟩ = some (.int k z) := by
  obtain ⟨g', t', cs, fuel, p, hg, hty', hvar, hd⟩ := h
  obtain rfl := Option.some.inj (hn.symm.trans hg)
  obtain rfl := Option.some.inj (hty.symm.trans hty')
  have hcs := Lib.cells_of_tab ht he hce hct hd
  have := World.var?_cell hg hvar i
  rw [this, ← Array.getElem?_toList, hcs]
  simp [hz]
theorem cast_at (l : List Nat) (i : Nat) (h : i < l.length) : (l.map fun (n : Nat) => (n : Int))[i]? = some ((l.getD i 0 : Nat) : Int) := by
  simp [h]
theorem sines_laid {W : World} (h : Lib.VarReads Tryz.prog W "gatepost/api.Sines" Rows.laid_gatepost_api_Sines) : Sines W := by
  have hc := fun i (hi : i < 64) => tab_at "gatepost/api.Sines" 2 90 84 64 .u32 (sinesL.map fun (n : Nat) => (n : Int)) (by kernel_rfl) (by kernel_rfl) Tryz.underlying90 Tryz.underlying84 (by kernel_rfl) (by kernel_rfl) h i _ (cast_at sinesL i hi)
  exact ⟨hc, lt_of_cell (hc 0 (by omega))⟩
theorem roots_laid {W : World} (h : Lib.VarReads Tryz.prog W "gatepost/api.Roots" Rows.laid_gatepost_api_Roots) : Roots W := by
  have hc := fun i (hi : i < 64) => tab_at "gatepost/api.Roots" 1 90 84 64 .u32 (rootsL.map fun (n : Nat) => (n : Int)) (by kernel_rfl) (by kernel_rfl) Tryz.underlying90 Tryz.underlying84 (by kernel_rfl) (by kernel_rfl) h i _ (cast_at rootsL i hi)
  exact ⟨hc, lt_of_cell (hc 0 (by omega))⟩
theorem begin_laid {W : World} (h : Lib.VarReads Tryz.prog W "gatepost/api.Begin" Rows.laid_gatepost_api_Begin) : Begin W := by
  have hc := fun i (hi : i < 8) => tab_at "gatepost/api.Begin" 0 85 84 8 .u32 (beginL.map fun (n : Nat) => (n : Int)) (by kernel_rfl) (by kernel_rfl) Tryz.underlying85 Tryz.underlying84 (by kernel_rfl) (by kernel_rfl) h i _ (cast_at beginL i hi)
  exact ⟨hc, lt_of_cell (hc 0 (by omega))⟩
def rowT (i : Nat) : List Int := [((turnsL.getD (i * 4) 0 : Nat) : Int), ((turnsL.getD (i * 4 + 1) 0 : Nat) : Int), ((turnsL.getD (i * 4 + 2) 0 : Nat) : Int), ((turnsL.getD (i * 4 + 3) 0 : Nat) : Int)]
theorem turns_data : (Rows.laid_gatepost_sum_turns : DataW Unit) = .agg [Lib.tabData .i64 (rowT 0), Lib.tabData .i64 (rowT 1), Lib.tabData .i64 (rowT 2), Lib.tabData .i64 (rowT 3)] := rfl
theorem turns_laid {W : World} (h : Lib.VarReads Tryz.prog W "gatepost/sum.turns" Rows.laid_gatepost_sum_turns) : Turns W := by
  have hc : ∀ q r, q < 4 → r < 4 → W.cell? ⟨5, q * 4 + r, none⟩ = some (.int .i64 ((turnsL.getD (q * 4 + r) 0 : Nat) : Int)) := by
    intro q r hq hr
    obtain ⟨g', t', cs, fuel, p, hg, hty, hvar, hd⟩ := h
    have hn : Tryz.prog.globalNamed "gatepost/sum.turns" = some 5 := by kernel_rfl
    have ht : (Tryz.prog.globals[5]?).map (·.type) = some 138 := by kernel_rfl
    obtain rfl := Option.some.inj (hn.symm.trans hg)
    obtain rfl := Option.some.inj (ht.symm.trans hty)
    rw [turns_data] at hd
    obtain ⟨fuel', d, q', hdi, he⟩ := Lib.array_elem Tryz.underlying138 hd q hq
    have h4 : Tryz.prog.cellsOf 137 = 4 := by kernel_rfl
    have h1 : Tryz.prog.cellsOf 3 = 1 := by kernel_rfl
    rw [h4] at he
    have hd2 : d = Lib.tabData .i64 (rowT q) := by
      obtain rfl | rfl | rfl | rfl : q = 0 ∨ q = 1 ∨ q = 2 ∨ q = 3 := by omega
      all_goals (simp at hdi; exact hdi.symm)
    subst hd2
    have hcs := Lib.cells_of_tab Tryz.underlying137 Tryz.underlying3 h1 h4 he
    have e := congrArg (·[r]?) hcs
    have := World.var?_cell hg hvar (q * 4 + r)
    rw [this, ← Array.getElem?_toList]
    simp only [List.getElem?_take, List.getElem?_drop, if_pos hr] at e
    rw [e]
    obtain rfl | rfl | rfl | rfl : r = 0 ∨ r = 1 ∨ r = 2 ∨ r = 3 := by omega
    all_goals simp [rowT]
  have hc2 : ∀ i, i < 16 → W.cell? ⟨5, i, none⟩ = some (.int .i64 ((turnsL.getD i 0 : Nat) : Int)) := by
    intro i hi
    have := hc (i / 4) (i % 4) (by omega) (by omega)
    have e : i / 4 * 4 + i % 4 = i := by omega
    rwa [e] at this
  exact ⟨hc2, lt_of_cell (hc2 0 (by omega))⟩
end Go.Proofs.YtgajhmmildbkfaaGreatFmt

/- The tables that a proof reads, by what the row lays. -/
namespace Go.Proofs.YtgajhmmildbkfaaGreatFmt
open Go.RowKit

theorem tabs_laid {W : World} (h0 : Lib.VarReads Tryz.prog W "math/bits.deBruijn64tab" Rows.laid_math_bits_deBruijn64tab) (h1 : Lib.VarReads Tryz.prog W "gatepost/api.Sines" Rows.laid_gatepost_api_Sines) (h2 : Lib.VarReads Tryz.prog W "gatepost/api.Roots" Rows.laid_gatepost_api_Roots)
    (h3 : Lib.VarReads Tryz.prog W "gatepost/api.Begin" Rows.laid_gatepost_api_Begin) (h4 : Lib.VarReads Tryz.prog W "gatepost/sum.turns" Rows.laid_gatepost_sum_turns) : Tabs W :=
  ⟨sines_laid h1, turns_laid h4, begin_laid h3, roots_laid h2, bruijn_laid h0⟩
end Go.Proofs.YtgajhmmildbkfaaGreatFmt
