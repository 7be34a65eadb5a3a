/- What is summed: the document's own filling. -/
import Derived.Test.YtooaiamfbmjmnaaFmtRefSum
import Derived.Test.YtooaiamfbmjmnaaFmtMark
import Derived.Deep.LoopGhost
import Derived.Deep.OwnRows
namespace Go.Proofs.YtooaiamfbmjmnaaFmt
open Go.RowKit

def posT (little : Bool) (j : Nat) : Nat := if little then j else 7 - j
def tailF (little : Bool) (N i j : Nat) : UInt8 := if posT little j < i then UInt8.ofNat (N / 256 ^ (posT little j)) else 0
def tailL (little : Bool) (N i : Nat) : List UInt8 := (List.range 8).map (tailF little N i)
theorem tailL_length (little : Bool) (N i : Nat) : (tailL little N i).length = 8 := by simp [tailL]
theorem tailL_zero (little : Bool) (N : Nat) : tailL little N 0 = List.replicate 8 0 := by
  simp [tailL, tailF, List.range_succ]
theorem tailL_eight (little : Bool) (N : Nat) : tailL little N 8 = if little then le8 N else (le8 N).reverse := by
  cases little <;> simp [tailL, tailF, posT, le8, List.range_succ]
theorem tailL_set (little : Bool) (N i k : Nat) (c : UInt8) (hk : k < 8) (hi : posT little k = i) (hc : c = UInt8.ofNat (N / 256 ^ i)) : (tailL little N i).set k c = tailL little N (i + 1) := by
  apply List.ext_getElem
  · simp [tailL]
  · intro j h1 h2
    have h4 : j < 8 := by simpa [tailL] using h2
    simp only [tailL, List.getElem_set, List.getElem_map, List.getElem_range]
    split
    · rename_i e
      subst e
      rw [hc, tailF, if_pos (by omega), hi]
    · rename_i e
      have : posT little j ≠ i := by
        intro h
        apply e
        cases little <;> simp [posT] at h hi <;> omega
      unfold tailF
      by_cases h3 : posT little j < i
      · rw [if_pos h3, if_pos (by omega)]
      · rw [if_neg h3, if_neg (by omega)]

theorem OwnM.setCell {w : World} {B g n cap : Nat} {l : List UInt8} (h : OwnM w B g n cap l) (a : Addr) (ha : a.block ≠ g) (v : Value) : OwnM (w.setCell a v) B g n cap l := by
  refine h.kept ?_
  simp [World.setCell, Array.getElem?_modify, ha]

theorem make8 (w : World) : ∃ W2 : World, (Instr.makeSlice 38 (.int .i64 8) (.int .i64 8)).run Tryf.prog w = .ok (.slice (some ⟨w.heap.size, 0, none⟩) 8 8) W2 ∧ Row W2 w.heap.size (List.replicate 8 0) ∧ (∀ k, k < w.heap.size → W2.heap[k]? = w.heap[k]?) ∧ (∀ B a, Below B a w → B ≤ w.heap.size → Below B a W2) ∧ W2.heap.size = w.heap.size + 1 := by
  refine ⟨_, run_make_row' (P := Tryf.prog) 38 5 (.int .u8 0) 1 Tryf.underlying38 info5 rfl .i64 .i64 8 (by omega) (by omega) w, ?_, ?_, ?_, ?_⟩
  · intro j hj
    have hj' : j < 8 := by simpa using hj
    refine ⟨?_, ?_⟩
    · rw [World.cell?_alloc_mark]
      have hmc : madeCells #[Value.int .u8 0] 8 = (List.replicate 8 (Value.int .u8 0)).toArray := by
        rw [← toList_madeCells_one]
      rw [hmc, List.getElem_replicate, List.getElem?_toArray, List.getElem?_replicate, if_pos hj']
      rfl
    · rw [World.frozen?_alloc_mark]
      simp
  · intro k hk
    exact heap_alloc_old w _ hk
  · intro B a hB hle
    exact hB.alloc hle _
  · simp

set_option maxHeartbeats 1600000 in
set_option maxRecDepth 100000 in
theorem refPad (little : Bool) (s : ByteArray) (hs : s.size ≤ 1000) (w : World) :
    Calls Tryf.prog 31 #[.string s, .bool little] w fun e w' => ∃ g n cap : Nat, e = .returned (.slice (some ⟨g, 0, none⟩) n cap) ∧ n = (s.size + 72) / 64 * 64 ∧ n ≤ cap ∧ w.heap.size ≤ g ∧ g < w'.heap.size ∧ Hid (Cells w' g (padL little s.data.toList)) ∧ Below w.heap.size w w' := by
  obtain ⟨i0, hi0, hz0, hz1, hz2⟩ := info_parts info5
  obtain ⟨cap, W1, hconv, hM, hbel, hsz⟩ := conv_M s w (by omega)
  have HM : Hid (OwnM W1 w.heap.size w.heap.size s.size cap s.data.toList) := hM
  have HZ : Hid (W1.heap.size = w.heap.size + 1) := hsz
  have hwz : w.heap.size ≤ W1.heap.size := by omega
  clear hM hsz
  go_enter Tryf.func31, Tryf.ntmps31
  go_wp2_with (at_builtin; refine wpList_append_M _ rfl _ _ 38 rfl w.heap.size i0 Tryf.underlying38 hi0 hz0 hz1 hz2 _ _ _ s.data.toList rfl (HM.out.alloc _) ⟨_, 0, none⟩ 1 1 [128] rfl rfl (fun j u hj => cell_one_new W1 (.int .u8 128) 5 j u hj) (by omega) (by simp; omega) ?_; intro g1 cap1 w1 hM1 hg1 hat1)
  have hB1 : Below w.heap.size w w1 := (hbel.alloc hwz _).grown hg1 (by simp; omega) (by simp)
  have HM1 : Hid (OwnM w1 w.heap.size g1 (s.size + 1) cap1 (s.data.toList ++ [128])) := hM1
  clear hM1 hg1 hat1 HM HZ hconv hbel hwz
  go_loopg [5] (zerosN s.size) (fun gh v wr => ∃ k g n cap : Nat, k + gh = zerosN s.size ∧ v = .slice (some ⟨g, 0, none⟩) n cap ∧ n = s.size + 1 + k ∧ Hid (OwnM wr w.heap.size g n cap (s.data.toList ++ [128] ++ List.replicate k 0)) ∧ Below w.heap.size w wr)
  case atStart => exact ⟨0, g1, _, cap1, by omega, rfl, by omega, by simpa using HM1, hB1⟩
  case round =>
    obtain ⟨k, g, n, cap2, hk, rfl, hn, HO, hb⟩ := hrel
    have hz : zerosN s.size < 64 := by unfold zerosN; omega
    have hn2 : n ≤ 1100 := by omega
    have hwr : w.heap.size ≤ wr.heap.size := hb.size
    clear HM1 hB1
    cases gk with
    | succ gk =>
      have hne : ((n : Int) % 64 != 56) = true := by
        have : n % 64 ≠ 56 := by unfold zerosN at hk; omega
        simp; omega
      have HN : Hid (n = s.size + 1 + k) := hn
      clear hn
      go_wp2_with (at_builtin; refine wpList_append_M _ rfl _ _ 38 rfl w.heap.size i0 Tryf.underlying38 hi0 hz0 hz1 hz2 _ _ _ _ rfl (HO.out.alloc _) ⟨_, 0, none⟩ 1 1 [0] rfl rfl (fun j u hj => cell_one_new wr (.int .u8 0) 5 j u hj) (by omega) (by simp; omega) ?_; intro g2 cap3 w2 hM2 hg2 hat2)
      go_roundg gk
      case measure => omega
      case rel =>
        refine ⟨k + 1, g2, n + 1, cap3, by omega, rfl, by have := HN.out; omega, ?_, (hb.alloc hwr _).grown hg2 (by simp; omega) ?_⟩
        · show OwnM _ _ _ _ _ _
          rw [List.replicate_succ', ← List.append_assoc]
          exact hM2
        · intro x hx
          have := HO.out.1
          simp only [Option.some.injEq] at hx
          omega
    | zero =>
      have hne : ((n : Int) % 64 != 56) = false := by
        have : n % 64 = 56 := by unfold zerosN at hk; omega
        simp; omega
      have HN : Hid (n = s.size + 1 + k) := hn
      clear hn
      have hkz : k = zerosN s.size := by omega
      subst hkz
      clear hk
      obtain ⟨W2, hmk, hrow2, hold2, hbel2, hsz2⟩ := make8 wr
      have hgl := HO.out.lt
      have HO2 : Hid (OwnM W2 w.heap.size g n cap2 (s.data.toList ++ [128] ++ List.replicate (zerosN s.size) 0)) := HO.out.kept (hold2 g hgl)
      have hb2 : Below w.heap.size w W2 := hbel2 _ _ hb hwr
      have HR2 : Hid (Row W2 wr.heap.size (tailL little (8 * s.size) 0)) := by rw [tailL_zero]; exact hrow2
      obtain ⟨gt, hgt⟩ : ∃ gt : Nat, wr.heap.size = gt := ⟨_, rfl⟩
      rw [hgt] at hmk HR2 hsz2 hgl hwr
      clear hrow2 hold2 hbel2 HO
      go_wp2
      go_loopw [6, 25] (fun v i wx => ∃ (j : Nat) (x : Int), j ≤ 8 ∧ i = .int .i64 j ∧ v = .int .i64 x ∧ 0 ≤ x ∧ x ≤ 8000 ∧ Hid (x = ((8 * s.size / 256 ^ j : Nat) : Int)) ∧ Hid (Row wx gt (tailL little (8 * s.size) j)) ∧ Hid (OwnM wx w.heap.size g n cap2 (s.data.toList ++ [128] ++ List.replicate (zerosN s.size) 0)) ∧ Below w.heap.size w wx ∧ wx.heap.size = gt + 1) (fun _ i _ => 8 - (intOf i).toNat)
      case atStart =>
        refine ⟨0, (s.size : Int) * 8, by omega, rfl, by go_num, by omega, by omega, ?_, HR2, HO2, hb2, hsz2⟩
        show _ = _
        simp
        omega
      case round =>
        obtain ⟨j, x, hj, rfl, rfl, hx0, hx1, HX, HR, HO, hb3, hsz3⟩ := hrel
        clear HR2 HO2 hb2 hsz2 hb hmk
        by_cases hlt : j < 8
        · have hxv : x % 256 = ((UInt8.ofNat (8 * s.size / 256 ^ j)).toNat : Int) := by
            rw [HX.out, UInt8.toNat_ofNat']
            generalize 8 * s.size / 256 ^ j = q
            omega
          have HV : Hid (x % 256 = ((UInt8.ofNat (8 * s.size / 256 ^ j)).toNat : Int)) := hxv
          clear hxv
          have HX2 : Hid (x / 256 = ((8 * s.size / 256 ^ (j + 1) : Nat) : Int)) := by
            show _ = _
            rw [HX.out, Nat.pow_succ, ← Nat.div_div_eq_div_mul]
            generalize 8 * s.size / 256 ^ j = q
            omega
          have hgne : gt ≠ g := by omega
          cases little
          · have h1 := HR.out (7 - j) (by rw [tailL_length]; omega)
            have hcell := h1.1
            have hfro := h1.2
            clear h1
            go_wp2
            go_roundw
            case rel =>
              refine ⟨j + 1, x / 256, by omega, by go_num, rfl, by omega, by omega, HX2, ?_, ?_, hb3.setCell (by simp; omega) _, by simp [hsz3]⟩
              · show Row _ _ _
                rw [← tailL_set false (8 * s.size) j (7 - j) _ (by omega) (by simp [posT]; omega) rfl]
                exact HR.out.set _ _ _ HV.out
              · exact HO.out.setCell _ hgne _
            case measure => simp [intOf]; omega
          · have h1 := HR.out j (by rw [tailL_length]; omega)
            have hcell := h1.1
            have hfro := h1.2
            clear h1
            go_wp2
            go_roundw
            case rel =>
              refine ⟨j + 1, x / 256, by omega, by go_num, rfl, by omega, by omega, HX2, ?_, ?_, hb3.setCell (by simp; omega) _, by simp [hsz3]⟩
              · show Row _ _ _
                rw [← tailL_set true (8 * s.size) j j _ (by omega) (by simp [posT]) rfl]
                exact HR.out.set _ _ _ HV.out
              · exact HO.out.setCell _ hgne _
            case measure => simp [intOf]; omega
        · obtain rfl : j = 8 := by omega
          have hwx : w.heap.size ≤ wr.heap.size := by omega
          go_wp2_with (at_builtin; refine wpList_append_M _ rfl _ _ 38 rfl w.heap.size i0 Tryf.underlying38 hi0 hz0 hz1 hz2 _ _ _ _ rfl HO.out ⟨_, 0, none⟩ 8 8 (tailL little (8 * s.size) 8) rfl (tailL_length _ _ _) (by
              intro q u hq
              have hq8 : q < (tailL little (8 * s.size) 8).length := by
                have := (List.getElem?_eq_some_iff.1 hq).1
                simpa using this
              have := (HR.out q hq8).1
              have hadd : (⟨gt, 0, none⟩ : Addr).add q = ⟨gt, q, none⟩ := by unfold Addr.add; split <;> simp_all
              rw [hadd, this]
              simpa [hq8] using hq) (by omega) hwx ?_; intro g4 cap4 w4 hM4 hg4 hat4)
          go_ret
          have hlenP : n + 8 = (padL little s.data.toList).length := by
            have := hM4.2.1
            rw [← this, padL, tailL_eight]
            simp
          refine ⟨g4, n + 8, cap4, rfl, ?_, ?_, hM4.1, hM4.lt, ?_, hb3.grown hg4 hwx ?_⟩
          · rw [hlenP, padL_length]
            simp
          · obtain ⟨_, _, _, _, _, _, h, _⟩ := hM4
            exact h
          · show Cells _ _ _
            intro q hq
            have e : padL little s.data.toList = s.data.toList ++ [128] ++ List.replicate (zerosN s.size) 0 ++ tailL little (8 * s.size) 8 := by
              rw [padL, tailL_eight]
              simp
            have := hM4.cells q (by rw [← e]; exact hq)
            rw [this]
            simp only [e]
          · intro q hq
            have := HO.out.1
            simp only [Option.some.injEq] at hq
            omega
end Go.Proofs.YtooaiamfbmjmnaaFmt
