/- The program's MD5 is the sum over lists of bytes. -/
import Derived.Test.YtooaiamfbmjmnaaFmtHexO
import Derived.Deep.RegionWith
namespace Go.Proofs.YtooaiamfbmjmnaaFmt
open Go.RowKit

theorem Sines.below {w w' : World} (h : Sines w) (hb : Below w.heap.size w w') : Sines w' :=
  ⟨fun i hi => by rw [← h.1 i hi]; simp only [World.cell?, hb.block _ h.2], Nat.lt_of_lt_of_le h.2 hb.size⟩
theorem Turns.below {w w' : World} (h : Turns w) (hb : Below w.heap.size w w') : Turns w' :=
  ⟨fun i hi => by rw [← h.1 i hi]; simp only [World.cell?, hb.block _ h.2], Nat.lt_of_lt_of_le h.2 hb.size⟩
theorem four_cells {w w' : World} {b : Nat} {x : Four} {t : TypeId} (h : w.heap[b]? = some (.cells (four x) t)) (hk : w'.heap[b]? = w.heap[b]?) :
    w'.cell? ⟨b, 0, none⟩ = some (.int .u32 x.a) ∧ w'.cell? ⟨b, 1, none⟩ = some (.int .u32 x.b) ∧ w'.cell? ⟨b, 2, none⟩ = some (.int .u32 x.c) ∧ w'.cell? ⟨b, 3, none⟩ = some (.int .u32 x.d) ∧
    w'.frozen? ⟨b, 0, none⟩ = false ∧ w'.frozen? ⟨b, 1, none⟩ = false ∧ w'.frozen? ⟨b, 2, none⟩ = false ∧ w'.frozen? ⟨b, 3, none⟩ = false := by
  rw [← hk] at h
  refine ⟨?_, ?_, ?_, ?_, ?_, ?_, ?_, ?_⟩
  · rw [cell_of_row _ _ _ _ _ _ h]; rfl
  · rw [cell_of_row _ _ _ _ _ _ h]; rfl
  · rw [cell_of_row _ _ _ _ _ _ h]; rfl
  · rw [cell_of_row _ _ _ _ _ _ h]; rfl
  · simp [World.frozen?, h]
  · simp [World.frozen?, h]
  · simp [World.frozen?, h]
  · simp [World.frozen?, h]
theorem four_set (x y : Four) : (((((four x).setIfInBounds 0 (.int .u32 y.a)).setIfInBounds 1 (.int .u32 y.b)).setIfInBounds 2 (.int .u32 y.c)).setIfInBounds 3 (.int .u32 y.d)) = four y := by
  simp [four]
theorem four_size (x : Four) : (four x).size = 4 := rfl
theorem four_one (x : Four) : (four x).all (·.oneCell') = true := by
  simp [four, Value.oneCell']
theorem Cells.kept {w w' : World} {B : Nat} {L : List UInt8} (h : Cells w B L) (hb : w'.heap[B]? = w.heap[B]?) : Cells w' B L := by
  intro j hj
  rw [← h j hj]
  simp only [World.cell?, hb]
set_option maxHeartbeats 8000000 in
set_option maxRecDepth 100000 in
theorem md5_any (s : ByteArray) (hs : s.size ≤ 1000) (w : World) (HS : Hid (Sines w)) (HTu : Hid (Turns w)) :
    Calls Tryf.prog 13 #[.string s] w fun e w' => e = .returned (.string (bs (hexL (md5L s.data.toList)))) ∧ Below w.heap.size w w' := by
  go_enter Tryf.func13, Tryf.ntmps13
  go_wp2_with (go_at_call 21; refine (fill_any false s hs _).mono ?_; rintro e w1 ⟨g, n, cap, rfl, hn, hnc, hgw, hgl, HC, hb1⟩; have HN : Hid (n = (s.size + 72) / 64 * 64) := hn; clear hn)
  obtain ⟨K, hK⟩ : ∃ K, (s.size + 72) / 64 = K := ⟨_, rfl⟩
  have hK2 : K ≤ 20 := by omega
  have hn2 : n = 64 * K := by have := HN.out; omega
  have HN2 : Hid (n = 64 * K) := hn2
  have hnK : RowKit.wrap64 ((n : Int) / 64) = (K : Int) := by
    rw [hn2]
    have : ((64 * K : Nat) : Int) / 64 = K := by omega
    rw [this]
    simp [RowKit.wrap64]
    omega
  rw [hnK]
  obtain ⟨L, hL⟩ : ∃ L, padL true s.data.toList = L := ⟨_, rfl⟩
  have hLl : L.length = 64 * K := by rw [← hL, padL_length]; simp; omega
  have HC1 : Hid (Cells w1 g L) := by rw [← hL]; exact HC
  have HG : Hid (md5L s.data.toList = (md5Blocks L K).bytes) := by
    show _ = _
    rw [md5L, hL, ← hK]
    simp
  have hn3 : n ≤ 1280 := by omega
  have hgw2 : w.heap.size < g := by simp at hgw; omega
  have HR1 : Hid (w1.heap[w.heap.size]? = some (.cells (four (md5Blocks L 0)) 58)) := by
    show _ = _
    rw [hb1.block _ (by simp)]
    exact heap_alloc_new w _
  have HB1 : Hid (Below w.heap.size w w1) := ((Below.refl _ _).alloc (Nat.le_refl _) _).trans (hb1.mono (by simp))
  have HLn : Hid (L.length = 64 * K) := hLl
  clear hn2 hnK hL hK HN HC hb1 hLl hgw
  go_loopw [12] (fun vi wx => ∃ (k : Nat), k ≤ K ∧ vi = .int .i64 k ∧ Hid (wx.heap[w.heap.size]? = some (.cells (four (md5Blocks L k)) 58)) ∧ Hid (Cells wx g L) ∧ g < wx.heap.size ∧ Hid (Below w.heap.size w wx)) (fun i _ => K - (intOf i).toNat)
  case atStart => exact ⟨0, by omega, rfl, HR1, HC1, hgl, HB1⟩
  case round =>
    obtain ⟨k, hk, rfl, HR, HCX, hgx, HB⟩ := hrel
    clear HR1 HC1 HB1 hgl
    by_cases hlt : k < K
    · obtain ⟨x, hx⟩ : ∃ x, md5Blocks L k = x := ⟨_, rfl⟩
      rw [hx] at HR
      have hok : x.ok := by rw [← hx]; exact md5Blocks_ok L k
      obtain ⟨c0, c1, c2, c3, f0, f1, f2, f3⟩ := four_cells HR.out rfl
      obtain ⟨p, hp⟩ : ∃ p : Nat, (k : Int) * 64 = (p : Int) := ⟨k * 64, by omega⟩
      have hp1 : p + 64 ≤ n := by have := HN2.out; omega
      have hwp : IntKind.i64.wrap (p : Int) = p := wrap64 p (by omega)
      have hpn : p ≤ n := by omega
      have hpc : ¬ (cap = p) := by omega
      have hpL : p + 64 ≤ L.length := by have := HLn.out; have := HN2.out; omega
      have hws : w.heap.size < wr.heap.size := by omega
      have hmix := mix_any x hok L p
      obtain ⟨y, hy⟩ : ∃ y, md5Add x (md5Rounds L p x 64) = y := ⟨_, rfl⟩
      rw [hy] at hmix
      have HY : Hid (md5Blocks L (k + 1) = y) := by
        show _ = _
        rw [md5Blocks, hx, ← hy]
        have : 64 * k = p := by omega
        rw [this]
      clear hy
      go_wp2
      go_region_with (first
          | (go_at_call 24; refine (words_any false L g p (n - p) (cap - p) hpL (by omega) wr.drew (HCX.out.kept (w' := wr.drew) rfl) hgx).mono ?_; rintro e w2 ⟨rfl, hb2⟩; obtain ⟨d0, d1, d2, d3, _, _, _, _⟩ := four_cells (w' := w2) HR.out (hb2.block _ hws))
          | (go_at_call 26; refine (hmix w2 ((HS.out.below (HB.out.drew.trans (hb2.mono (by simp; omega))))) ((HTu.out.below (HB.out.drew.trans (hb2.mono (by simp; omega)))))).mono ?_; rintro e w3 ⟨rfl, hb3⟩; have hr3 : w3.heap[w.heap.size]? = some (.cells (four x) 58) := (((hb3.block _ (Nat.lt_of_lt_of_le hws hb2.size)).trans (hb2.block _ hws)).trans HR.out); have hst := store_cells (P := Tryf.prog) w3 w.heap.size _ _ (four y) hr3 (by rw [four_size, four_size]) (four_one _))
        )
      all_goals
        have hb3' : Below wr.heap.size wr w3 := ((Below.refl _ _).drew).trans (hb2.trans (hb3.mono hb2.size))
        have HR3 : Hid ((w3.setRow w.heap.size (four y)).heap[w.heap.size]? = some (.cells (four y) 58)) := setRow_heap w3 w.heap.size _ _ _ _ hr3
        have HC3 : Hid (Cells (w3.setRow w.heap.size (four y)) g L) := HCX.out.kept (by rw [setRow_other _ _ _ _ (by omega)]; exact hb3'.block _ hgx)
        have hg3 : g < (w3.setRow w.heap.size (four y)).heap.size := by
          have := hb3'.size
          simp [World.setRow]
          omega
        have HB3 : Hid (Below w.heap.size w (w3.setRow w.heap.size (four y))) := below_setRow (HB.out.trans (hb3'.mono (by omega))) (Nat.le_refl _) _
        generalize w3.setRow w.heap.size (four y) = WX at HR3 HC3 hg3 HB3 ⊢
        clear hst hr3 hb3 hb2 hb3' d0 d1 d2 d3 hmix
        go_wp2
        go_roundw
        case rel => exact ⟨k + 1, by omega, by go_num, by rw [HY.out]; exact HR3, HC3, hg3, HB3⟩
        case measure => simp [intOf]; omega
    · obtain rfl : k = K := by omega
      obtain ⟨x, hx⟩ : ∃ x, md5Blocks L k = x := ⟨_, rfl⟩
      rw [hx] at HR
      have hok : x.ok := by rw [← hx]; exact md5Blocks_ok L k
      have HXX : Hid (md5Blocks L k = x) := hx
      have HCC : Hid (∀ j, j < 4 → wr.cell? ⟨w.heap.size, j, none⟩ = some (.int .u32 (([x.a, x.b, x.c, x.d].getD j 0 : Nat) : Int))) := by
        intro j hj
        rw [cell_of_row _ _ _ _ _ _ HR.out]
        obtain rfl | rfl | rfl | rfl : j = 0 ∨ j = 1 ∨ j = 2 ∨ j = 3 := by omega
        all_goals rfl
      clear hx
      have hws : w.heap.size < wr.heap.size := by omega
      go_wp2_with (go_at_call 25; refine (hexO_any false [x.a, x.b, x.c, x.d] w.heap.size 4 4 rfl (by omega) (by omega) (fun y hy => by obtain ⟨h1, h2, h3, h4⟩ := hok; simp at hy; omega) _ HCC hws).mono ?_; rintro e w2 ⟨rfl, hb2⟩)
      go_ret
      refine ⟨ret_str ?_, HB.out.trans (hb2.mono (by omega))⟩
      rw [HG.out, HXX.out]
      simp [enc4, Four.bytes]
end Go.Proofs.YtooaiamfbmjmnaaFmt
