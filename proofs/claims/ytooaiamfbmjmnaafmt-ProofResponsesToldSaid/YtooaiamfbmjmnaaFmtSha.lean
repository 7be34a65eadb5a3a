/- The program's SHA-256 is the sum over lists of bytes. -/
import Derived.Test.YtooaiamfbmjmnaaFmtMixS
import Derived.Deep.RegionWith
namespace Go.Proofs.YtooaiamfbmjmnaaFmt
open Go.RowKit

theorem Roots.below {w w' : World} (h : Roots w) (hb : Below w.heap.size w w') : Roots w' :=
  ⟨fun i hi => by rw [← h.1 i hi]; simp only [World.cell?, hb.block _ h.2], Nat.lt_of_lt_of_le h.2 hb.size⟩
theorem Begin.below {w w' : World} (h : Begin w) (hb : Below w.heap.size w w') : Begin w' :=
  ⟨fun i hi => by rw [← h.1 i hi]; simp only [World.cell?, hb.block _ h.2], Nat.lt_of_lt_of_le h.2 hb.size⟩
theorem eightN {l : List Nat} (h : l.length = 8) : ∃ a b c d e f g i, l = [a, b, c, d, e, f, g, i] := by
  match l, h with
  | [a, b, c, d, e, f, g, i], _ => exact ⟨a, b, c, d, e, f, g, i, rfl⟩
theorem eight_cells {w w' : World} {B a b c d e f g i : Nat} {t : TypeId} (h : w.heap[B]? = some (.cells (encU [a, b, c, d, e, f, g, i]) t)) (hk : w'.heap[B]? = w.heap[B]?) :
    w'.cell? ⟨B, 0, none⟩ = some (.int .u32 a) ∧ w'.cell? ⟨B, 1, none⟩ = some (.int .u32 b) ∧ w'.cell? ⟨B, 2, none⟩ = some (.int .u32 c) ∧ w'.cell? ⟨B, 3, none⟩ = some (.int .u32 d) ∧
    w'.cell? ⟨B, 4, none⟩ = some (.int .u32 e) ∧ w'.cell? ⟨B, 5, none⟩ = some (.int .u32 f) ∧ w'.cell? ⟨B, 6, none⟩ = some (.int .u32 g) ∧ w'.cell? ⟨B, 7, none⟩ = some (.int .u32 i) := by
  rw [← hk] at h
  refine ⟨?_, ?_, ?_, ?_, ?_, ?_, ?_, ?_⟩ <;> (rw [cell_of_row _ _ _ _ _ _ h]; rfl)
set_option maxHeartbeats 8000000 in
set_option maxRecDepth 100000 in
theorem sha_any (s : ByteArray) (hs : s.size ≤ 1000) (w : World) (HBe : Hid (Begin w)) (HRo : Hid (Roots w)) :
    Calls Tryf.prog 12 #[.string s] w fun e w' => e = .returned (.string (bs (hexL (shaL s.data.toList)))) ∧ Below w.heap.size w w' := by
  have b0 := HBe.out.1 0 (by omega)
  have b1 := HBe.out.1 1 (by omega)
  have b2 := HBe.out.1 2 (by omega)
  have b3 := HBe.out.1 3 (by omega)
  have b4 := HBe.out.1 4 (by omega)
  have b5 := HBe.out.1 5 (by omega)
  have b6 := HBe.out.1 6 (by omega)
  have b7 := HBe.out.1 7 (by omega)
  simp only [beginL, List.getD_cons_zero, List.getD_cons_succ] at b0 b1 b2 b3 b4 b5 b6 b7
  go_enter Tryf.func12, Tryf.ntmps12
  go_wp2_with (go_at_call 21; refine (fill_any true s hs _).mono ?_; rintro e w1 ⟨g, n, cap, rfl, hn, hnc, hgw, hgl, HC, hb1⟩; have HN : Hid (n = (s.size + 72) / 64 * 64) := hn; clear hn)
  clear b0 b1 b2 b3 b4 b5 b6 b7
  obtain ⟨K, hK⟩ : ∃ K, (s.size + 72) / 64 = K := ⟨_, rfl⟩
  have hK2 : K ≤ 20 := by omega
  have hn2 : n = 64 * K := by have := HN.out; omega
  have HN2 : Hid (n = 64 * K) := hn2
  have hnK : RowKit.wrap64 ((n : Int) / 64) = (K : Int) := by
    rw [hn2]
    have : ((64 * K : Nat) : Int) / 64 = K := by omega
    rw [this]
    simp [RowKit.wrap64]
    omega
  rw [hnK]
  obtain ⟨L, hL⟩ : ∃ L, padL false s.data.toList = L := ⟨_, rfl⟩
  have hLl : L.length = 64 * K := by rw [← hL, padL_length]; simp; omega
  have HC1 : Hid (Cells w1 g L) := by rw [← hL]; exact HC
  have HG : Hid (shaL s.data.toList = (shaBlocks L K).flatMap be4) := by
    show _ = _
    rw [shaL, hL, ← hK]
    simp
  have hn3 : n ≤ 1280 := by omega
  have hgw2 : w.heap.size < g := by simp at hgw; omega
  have HR1 : Hid (w1.heap[w.heap.size]? = some (.cells (encU (shaBlocks L 0)) 48)) := by
    show _ = _
    rw [hb1.block _ (by simp)]
    exact heap_alloc_new w _
  have HB1 : Hid (Below w.heap.size w w1) := ((Below.refl _ _).alloc (Nat.le_refl _) _).trans (hb1.mono (by simp))
  have HLn : Hid (L.length = 64 * K) := hLl
  clear hn2 hnK hL hK HN HC hb1 hLl hgw HBe
  go_loopw [12] (fun vi wx => ∃ (k : Nat), k ≤ K ∧ vi = .int .i64 k ∧ Hid (wx.heap[w.heap.size]? = some (.cells (encU (shaBlocks L k)) 48)) ∧ Hid (Cells wx g L) ∧ g < wx.heap.size ∧ Hid (Below w.heap.size w wx)) (fun i _ => K - (intOf i).toNat)
  case atStart => exact ⟨0, by omega, rfl, HR1, HC1, hgl, HB1⟩
  case round =>
    obtain ⟨k, hk, rfl, HR, HCX, hgx, HB⟩ := hrel
    clear HR1 HC1 HB1 hgl
    have hx8 := shaBlocks_length L k
    have hxl : ∀ j, (shaBlocks L k).getD j 0 < 4294967296 := fun j => by
      by_cases hj : j < 8
      · exact shaBlocks_lt L k j hj
      · rw [List.getD_eq_getElem?_getD, List.getElem?_eq_none (by omega)]
        decide
    by_cases hlt : k < K
    · obtain ⟨x, hx⟩ : ∃ x, shaBlocks L k = x := ⟨_, rfl⟩
      rw [hx] at HR hx8 hxl
      obtain ⟨p, hp⟩ : ∃ p : Nat, (k : Int) * 64 = (p : Int) := ⟨k * 64, by omega⟩
      have hwl := shaW_length L p 64
      have hwl2 := shaW_lt L p 64
      have hspr := spread_any L p
      obtain ⟨WW, hWW⟩ : ∃ WW, shaW L p 64 = WW := ⟨_, rfl⟩
      rw [hWW] at hspr hwl hwl2
      have hmix := mixS_any x hx8 hxl WW hwl hwl2
      obtain ⟨y, hy⟩ : ∃ y, shaAdd x (shaRounds WW x 64) = y := ⟨_, rfl⟩
      have hy8 : y.length = 8 := by rw [← hy]; exact shaAdd_length _ _
      rw [hy] at hmix
      have HY : Hid (shaBlocks L (k + 1) = y) := by
        show _ = _
        have e : 64 * k = p := by omega
        rw [shaBlocks, hx, e, hWW, hy]
      clear hy hWW hwl2 hxl
      obtain ⟨n0, n1, n2, n3, n4, n5, n6, n7, rfl⟩ := eightN hx8
      obtain ⟨c0, c1, c2, c3, c4, c5, c6, c7⟩ := eight_cells HR.out rfl
      have hp1 : p + 64 ≤ n := by have := HN2.out; omega
      have hwp : IntKind.i64.wrap (p : Int) = p := wrap64 p (by omega)
      have hpn : p ≤ n := by omega
      have hpc : ¬ (cap = p) := by omega
      have hpL : p + 64 ≤ L.length := by have := HLn.out; have := HN2.out; omega
      have hws : w.heap.size < wr.heap.size := by omega
      have hwds := words_any true L g p (n - p) (cap - p) hpL (by omega) wr.drew (HCX.out.kept (w' := wr.drew) rfl) hgx
      simp only [Bool.not_true] at hwds
      clear hx hx8 hwl
      have hys : (encU y).size = 8 := by rw [encU_size, hy8]
      go_wp2
      go_region_with (first
          | (go_at_call 24; refine hwds.mono ?_; rintro e w2 ⟨rfl, hb2⟩; obtain ⟨d0, d1, d2, d3, d4, d5, d6, d7⟩ := eight_cells (w' := w2) HR.out (hb2.block _ hws))
          | (go_at_call 23; refine (hspr w2).mono ?_; rintro e w3 ⟨rfl, hb3⟩; have hb3' : Below wr.heap.size wr w3 := ((Below.refl _ _).drew).trans (hb2.trans (hb3.mono hb2.size)); obtain ⟨j0, j1, j2, j3, j4, j5, j6, j7⟩ := eight_cells (w' := w3) HR.out (hb3'.block _ hws))
          | (go_at_call 22; refine (hmix w3 (HRo.out.below (HB.out.trans (hb3'.mono (by omega))))).mono ?_; rintro e w4 ⟨rfl, hb4⟩; have hb4' : Below wr.heap.size wr w4 := hb3'.trans (hb4.mono hb3'.size); have hr4 : w4.heap[w.heap.size]? = some (.cells (encU [n0, n1, n2, n3, n4, n5, n6, n7]) 48) := ((hb4'.block _ hws).trans HR.out); have hst := store_cells (P := Tryf.prog) w4 w.heap.size _ _ (encU y) hr4 (by rw [encU_size, encU_size, hy8]; rfl) (encU_one _)))
      all_goals
        have HR3 : Hid ((w4.setRow w.heap.size (encU y)).heap[w.heap.size]? = some (.cells (encU y) 48)) := setRow_heap w4 w.heap.size _ _ _ _ hr4
        have HC3 : Hid (Cells (w4.setRow w.heap.size (encU y)) g L) := HCX.out.kept (by rw [setRow_other _ _ _ _ (by omega)]; exact hb4'.block _ hgx)
        have hg3 : g < (w4.setRow w.heap.size (encU y)).heap.size := by
          have := hb4'.size
          simp [World.setRow]
          omega
        have HB3 : Hid (Below w.heap.size w (w4.setRow w.heap.size (encU y))) := below_setRow (HB.out.trans (hb4'.mono (by omega))) (Nat.le_refl _) _
        generalize w4.setRow w.heap.size (encU y) = WX at HR3 HC3 hg3 HB3 ⊢
        clear hst hr4 hb4 hb3 hb2 hb3' hb4' d0 d1 d2 d3 d4 d5 d6 d7 j0 j1 j2 j3 j4 j5 j6 j7 c0 c1 c2 c3 c4 c5 c6 c7 hmix hspr hwds
        go_wp2
        go_roundw
        case rel => exact ⟨k + 1, by omega, by go_num, by rw [HY.out]; exact HR3, HC3, hg3, HB3⟩
        case measure => simp [intOf]; omega
    · obtain rfl : k = K := by omega
      obtain ⟨x, hx⟩ : ∃ x, shaBlocks L k = x := ⟨_, rfl⟩
      rw [hx] at HR hx8 hxl
      have HXX : Hid (shaBlocks L k = x) := hx
      clear hx
      have HCC : Hid (∀ j, j < 8 → wr.cell? ⟨w.heap.size, j, none⟩ = some (.int .u32 ((x.getD j 0 : Nat) : Int))) := by
        intro j hj
        rw [cell_of_row _ _ _ _ _ _ HR.out, encU_at _ _ (by omega)]
      have hall : ∀ y ∈ x, y < 4294967296 := by
        intro y hy
        obtain ⟨j, hj, rfl⟩ := List.getElem_of_mem hy
        have := hxl j
        rwa [List.getD_eq_getElem?_getD, List.getElem?_eq_getElem hj] at this
      have hws : w.heap.size < wr.heap.size := by omega
      go_wp2_with (go_at_call 25; refine (hexO_any true x w.heap.size 8 8 hx8 (by omega) (by omega) hall _ HCC hws).mono ?_; rintro e w2 ⟨rfl, hb2⟩)
      go_ret
      refine ⟨ret_str ?_, HB.out.trans (hb2.mono (by omega))⟩
      rw [HG.out, HXX.out]
      simp [enc4]
end Go.Proofs.YtooaiamfbmjmnaaFmt
