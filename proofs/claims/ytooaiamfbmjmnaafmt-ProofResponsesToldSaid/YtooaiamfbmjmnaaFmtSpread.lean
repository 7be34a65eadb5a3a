/- The program's 64 words of a block. -/
import Derived.Test.YtooaiamfbmjmnaaFmtMd5
namespace Go.Proofs.YtooaiamfbmjmnaaFmt
open Go.RowKit

def rowW (L : List UInt8) (p i : Nat) : List Nat := shaW L p i ++ List.replicate (64 - i) 0
theorem rowW_length (L : List UInt8) (p i : Nat) (h : i ≤ 64) : (rowW L p i).length = 64 := by
  simp [rowW, shaW_length]
  omega
theorem rowW_zero (L : List UInt8) (p : Nat) : rowW L p 0 = List.replicate 64 0 := by simp [rowW, shaW]
theorem rowW_all (L : List UInt8) (p : Nat) : rowW L p 64 = shaW L p 64 := by simp [rowW]
theorem rowW_succ (L : List UInt8) (p i : Nat) (h : i < 64) : rowW L p (i + 1) = (rowW L p i).set i (shaNew L p i) := by
  have e : 64 - i = (64 - (i + 1)) + 1 := by omega
  unfold rowW
  rw [shaW_succ, List.set_append_right _ _ (by rw [shaW_length]; omega), shaW_length, e, List.replicate_succ]
  simp
theorem rowW_at (L : List UInt8) (p i j : Nat) (h : j < i) : (rowW L p i).getD j 0 = (shaW L p i).getD j 0 := by
  unfold rowW
  rw [List.getD_eq_getElem?_getD, List.getElem?_append_left (by rw [shaW_length]; exact h), ← List.getD_eq_getElem?_getD]
theorem sigU (x r1 r2 : Int) (k1 k2 d : Nat) (h0 : 0 ≤ x) (h1 : x < 4294967296) (H1 : r1 = rorN x.toNat k1) (H2 : r2 = rorN x.toNat k2) (D : Int) (hD : D = d) : ∃ z : Int, bits .xor .u32 (bits .xor .u32 r1 r2) (x / D) = z ∧ 0 ≤ z ∧ z < 4294967296 ∧ Hid (z = ((rorN x.toNat k1 ^^^ rorN x.toNat k2 ^^^ x.toNat / d : Nat) : Int)) := by
  obtain ⟨n, rfl⟩ : ∃ n : Nat, x = n := ⟨x.toNat, by omega⟩
  subst hD H1 H2
  simp only [Int.toNat_natCast]
  have a1 := rorN_lt n k1 (by omega)
  have a2 := rorN_lt n k2 (by omega)
  have a3 : n / d < 4294967296 := Nat.lt_of_le_of_lt (Nat.div_le_self _ _) (by omega)
  refine ⟨_, rfl, ?_⟩
  rw [← Int.natCast_ediv, xorU32 _ _ a1 a2, xorU32 _ _ (xor32_lt a1 a2) a3]
  have := xor32_lt (xor32_lt a1 a2) a3
  exact ⟨by omega, by omega, rfl⟩
theorem wrapU (n : Int) : IntKind.u32.wrap n = n % 4294967296 := by simp [IntKind.wrap, IntKind.bits, IntKind.signed]
theorem info64 : (Tryf.prog.info? 52).map (·.size) = some 64 := by kernel_rfl
theorem three_now (w : World) (a b c : Obj) : (((w.alloc a).alloc b).alloc c).heap[w.heap.size]? = some a ∧ (((w.alloc a).alloc b).alloc c).heap[w.heap.size + 1]? = some b ∧ (((w.alloc a).alloc b).alloc c).heap[w.heap.size + 1 + 1]? = some c :=
  three_blocks w a b c 0
set_option maxHeartbeats 8000000 in
set_option maxRecDepth 100000 in
theorem spread_any (L : List UInt8) (p : Nat) (w : World) :
    Calls Tryf.prog 23 #[.agg (encU (wordsL false L p))] w fun e w' => e = .returned (.agg (encU (shaW L p 64))) ∧ Below w.heap.size w w' := by
  have hl := encU_size (wordsL false L p)
  rw [wordsL_length] at hl
  go_enter Tryf.func23, Tryf.ntmps23
  go_wp2
  generalize hW : World.alloc (World.alloc (World.alloc _ _) _) _ = W0
  have hB0 : Below w.heap.size w W0 := by
    rw [← hW]
    exact (((Below.refl _ _).alloc (Nat.le_refl _) _).alloc (by simp) _).alloc (by simp; omega) _
  have hsz : W0.heap.size = w.heap.size + 3 := by rw [← hW]; simp
  obtain ⟨h0, h1, h2⟩ : W0.heap[w.heap.size]? = some (.cells (encU (wordsL false L p)) 54) ∧ W0.heap[w.heap.size + 1]? = some (.cells (encU (List.replicate 64 0)) 52) ∧ W0.heap[w.heap.size + 1 + 1]? = some (.cells (encU (List.replicate 64 0)) 52) := by
    rw [← hW]
    exact three_now _ _ _ _
  clear hW
  have HB0 : Hid (Below w.heap.size w W0) := hB0
  have HH0 : Hid (W0.heap[w.heap.size]? = some (.cells (encU (wordsL false L p)) 54)) := h0
  have HH1 : Hid (W0.heap[w.heap.size + 1]? = some (.cells (encU (List.replicate 64 0)) 52)) := h1
  have HH2 : Hid (W0.heap[w.heap.size + 1 + 1]? = some (.cells (encU (List.replicate 64 0)) 52)) := h2
  clear h0 h1 h2 hB0 hl
  go_loopw [9] (fun vi wx => ∃ (i : Nat), i ≤ 64 ∧ vi = .int .i64 i ∧ Hid (wx.heap[w.heap.size + 1 + 1]? = some (.cells (encU (rowW L p i)) 52)) ∧ Hid (Below (w.heap.size + 1 + 1) W0 wx)) (fun i _ => 64 - (intOf i).toNat)
  case atStart => exact ⟨0, by omega, rfl, by rw [rowW_zero]; exact HH2, Below.refl _ _⟩
  case round =>
    obtain ⟨i, hi, rfl, HR, HD⟩ := hrel
    clear HH2
    by_cases hlt : i < 64
    · have hfro : wr.frozen? ⟨w.heap.size + 1 + 1, i, none⟩ = false := by simp [World.frozen?, HR.out]
      have hold : ∃ u, wr.cell? ⟨w.heap.size + 1 + 1, i, none⟩ = some u := by
        rw [cell_of_row _ _ i _ _ _ HR.out, encU_at _ _ (by rw [rowW_length _ _ _ hi]; exact hlt)]
        exact ⟨_, rfl⟩
      obtain ⟨u, hu⟩ := hold
      have HST : ∀ X : Int, X = (shaNew L p i : Nat) → (wr.setCell ⟨w.heap.size + 1 + 1, i, none⟩ (.int .u32 X)).heap[w.heap.size + 1 + 1]? = some (.cells (encU (rowW L p (i + 1))) 52) := by
        intro X hX
        rw [row_set _ _ _ _ _ _ _ HR.out, encU_set _ _ _ _ hX, rowW_succ L p i hlt]
      have HST2 : Hid (∀ X : Int, X = (shaNew L p i : Nat) → (wr.setCell ⟨w.heap.size + 1 + 1, i, none⟩ (.int .u32 X)).heap[w.heap.size + 1 + 1]? = some (.cells (encU (rowW L p (i + 1))) 52)) := HST
      clear HST
      by_cases h16 : i < 16
      · obtain ⟨X, hX⟩ : ∃ X : Int, ((wordAt false L (p + 4 * i) : Nat) : Int) = X := ⟨_, rfl⟩
        have hcel : wr.cell? ⟨w.heap.size, i, none⟩ = some (.int .u32 X) := by
          have e := HH0.out
          rw [← HD.out.block _ (by omega)] at e
          rw [cell_of_row _ _ i _ _ _ e, encU_at _ _ (by rw [wordsL_length]; exact h16), wordsL_at _ _ _ _ h16, hX]
        have HX : Hid (X = (shaNew L p i : Nat)) := by
          show _ = _
          rw [shaNew, if_pos h16, hX]
        clear hX
        go_wp2
        go_roundw
        case rel => exact ⟨i + 1, by omega, by go_num, HST2.out X HX.out, HD.out.setCell (Nat.le_refl _) _⟩
        case measure => simp [intOf]; omega
      · obtain ⟨p15, e15⟩ : ∃ p : Nat, (i : Int) - 15 = (p : Int) := ⟨i - 15, by omega⟩
        obtain ⟨p2, e2⟩ : ∃ p : Nat, (i : Int) - 2 = (p : Int) := ⟨i - 2, by omega⟩
        obtain ⟨p16, e16⟩ : ∃ p : Nat, (i : Int) - 16 = (p : Int) := ⟨i - 16, by omega⟩
        obtain ⟨p7, e7⟩ : ∃ p : Nat, (i : Int) - 7 = (p : Int) := ⟨i - 7, by omega⟩
        have l15 : p15 < i := by omega
        have l2 : p2 < i := by omega
        have l16 : p16 < i := by omega
        have l7 : p7 < i := by omega
        have w15 : IntKind.i64.wrap (p15 : Int) = p15 := wrap64 _ (by omega)
        have w2 : IntKind.i64.wrap (p2 : Int) = p2 := wrap64 _ (by omega)
        have w16 : IntKind.i64.wrap (p16 : Int) = p16 := wrap64 _ (by omega)
        have w7 : IntKind.i64.wrap (p7 : Int) = p7 := wrap64 _ (by omega)
        have HPS : Hid (p15 = i - 15 ∧ p2 = i - 2 ∧ p16 = i - 16 ∧ p7 = i - 7) := ⟨by omega, by omega, by omega, by omega⟩
        have cell (j : Nat) (hj : j < i) : wr.cell? ⟨w.heap.size + 1 + 1, j, none⟩ = some (.int .u32 (((shaW L p i).getD j 0 : Nat) : Int)) := by
          rw [cell_of_row _ _ j _ _ _ HR.out, encU_at _ _ (by rw [rowW_length _ _ _ hi]; omega), rowW_at _ _ _ _ hj]
        have k15 := cell p15 l15
        have k2 := cell p2 l2
        have k16 := cell p16 l16
        have k7 := cell p7 l7
        clear cell
        have b15 := shaW_lt L p i p15
        have b2 := shaW_lt L p i p2
        have b16 := shaW_lt L p i p16
        have b7 := shaW_lt L p i p7
        obtain ⟨x15, hx15⟩ : ∃ x : Int, (((shaW L p i).getD p15 0 : Nat) : Int) = x := ⟨_, rfl⟩
        obtain ⟨x2, hx2⟩ : ∃ x : Int, (((shaW L p i).getD p2 0 : Nat) : Int) = x := ⟨_, rfl⟩
        obtain ⟨x16, hx16⟩ : ∃ x : Int, (((shaW L p i).getD p16 0 : Nat) : Int) = x := ⟨_, rfl⟩
        obtain ⟨x7, hx7⟩ : ∃ x : Int, (((shaW L p i).getD p7 0 : Nat) : Int) = x := ⟨_, rfl⟩
        rw [hx15] at k15
        rw [hx2] at k2
        rw [hx16] at k16
        rw [hx7] at k7
        have u15 : 0 ≤ x15 := by omega
        have u2 : 0 ≤ x2 := by omega
        have u16 : 0 ≤ x16 := by omega
        have u7 : 0 ≤ x7 := by omega
        have v15 : x15 < 4294967296 := by omega
        have v2 : x2 < 4294967296 := by omega
        have v16 : x16 < 4294967296 := by omega
        have v7 : x7 < 4294967296 := by omega
        obtain ⟨ra, ra0, ra1, HRA⟩ := ror_bounds x15 7 u15 v15
        obtain ⟨rb, rb0, rb1, HRB⟩ := ror_bounds x15 18 u15 v15
        obtain ⟨rc, rc0, rc1, HRC⟩ := ror_bounds x2 17 u2 v2
        obtain ⟨rd, rd0, rd1, HRD⟩ := ror_bounds x2 19 u2 v2
        obtain ⟨sa, hsa, sa0, sa1, HSA⟩ := sigU x15 ra rb 7 18 8 u15 v15 HRA.out HRB.out 8 rfl
        obtain ⟨sb, hsb, sb0, sb1, HSB⟩ := sigU x2 rc rd 17 19 1024 u2 v2 HRC.out HRD.out 1024 rfl
        have HNW : Hid ((x16 + x7 + sa + sb) % 4294967296 = ((shaNew L p i : Nat) : Int)) := by
          show _ = _
          obtain ⟨z1, z2, z3, z4⟩ := HPS.out
          rw [shaNew, if_neg h16, ← z1, ← z2, ← z3, ← z4, HSA.out, HSB.out]
          have t15 : x15.toNat = (shaW L p i).getD p15 0 := by omega
          have t2 : x2.toNat = (shaW L p i).getD p2 0 := by omega
          rw [t15, t2, ← hx16, ← hx7]
          omega
        clear hx15 hx2 hx16 hx7 b15 b2 b16 b7 HPS HSA HSB
        go_wp2
        go_quiet (fail)
        go_wp2_with fail
        refine (right_any x15 7 ra u15 v15 (by omega) (by omega) _ HRA).mono ?_
        rintro e wz ⟨rfl, hwz⟩
        rw [hwz]
        clear hwz wz
        go_wp2_with fail
        refine (right_any x15 18 rb u15 v15 (by omega) (by omega) _ HRB).mono ?_
        rintro e wz ⟨rfl, hwz⟩
        rw [hwz]
        clear hwz wz
        go_wp2_with fail
        refine (right_any x2 17 rc u2 v2 (by omega) (by omega) _ HRC).mono ?_
        rintro e wz ⟨rfl, hwz⟩
        rw [hwz]
        clear hwz wz
        go_wp2_with fail
        refine (right_any x2 19 rd u2 v2 (by omega) (by omega) _ HRD).mono ?_
        rintro e wz ⟨rfl, hwz⟩
        rw [hwz]
        clear hwz wz
        go_wp2
        generalize hW1 : wr.drewN nq = W1
        have hb1 : W1.heap = wr.heap := by rw [← hW1]; rfl
        have z16 : W1.cell? ⟨w.heap.size + 1 + 1, p16, none⟩ = some (.int .u32 x16) := by rw [← k16]; simp only [World.cell?, hb1]
        have z7 : W1.cell? ⟨w.heap.size + 1 + 1, p7, none⟩ = some (.int .u32 x7) := by rw [← k7]; simp only [World.cell?, hb1]
        have zu : W1.cell? ⟨w.heap.size + 1 + 1, i, none⟩ = some u := by rw [← hu]; simp only [World.cell?, hb1]
        have zf : W1.frozen? ⟨w.heap.size + 1 + 1, i, none⟩ = false := by rw [← hfro]; simp only [World.frozen?, hb1]
        have HR1 : Hid (W1.heap[w.heap.size + 1 + 1]? = some (.cells (encU (rowW L p i)) 52)) := by show _ = _; rw [hb1]; exact HR.out
        have HD1 : Hid (Below (w.heap.size + 1 + 1) W0 W1) := by rw [← hW1]; exact below_drewN HD.out _
        clear hW1 hb1 HR HD HST2 k16 k7 k15 k2 hu hfro hsa hsb e15 e2 w15 w2 l15 l2 ra0 ra1 rb0 rb1 rc0 rc1 rd0 rd1 HRA HRB HRC HRD u15 v15 u2 v2
        have HFR : Hid ((W1.setCell ⟨w.heap.size + 1 + 1, i, none⟩ (.int .u32 ((x16 + sa + x7 + sb) % 4294967296))).heap[w.heap.size + 1 + 1]? = some (.cells (encU (rowW L p (i + 1))) 52)) := by
          show _ = _
          rw [row_set _ _ _ _ _ _ _ HR1.out, encU_set _ _ _ (shaNew L p i) (by rw [← HNW.out]; congr 1; omega), rowW_succ L p i hlt]
        go_region
        have HD2 : Hid (Below (w.heap.size + 1 + 1) W0 (W1.setCell ⟨w.heap.size + 1 + 1, i, none⟩ (.int .u32 ((x16 + sa + x7 + sb) % 4294967296)))) := HD1.out.setCell (Nat.le_refl _) _
        generalize World.setCell _ _ _ = WX at HFR HD2 ⊢
        go_wp2
        go_roundw
        case rel => exact ⟨i + 1, by omega, by go_num, HFR, HD2.out.drew⟩
        case measure => simp [intOf]; omega
    · obtain rfl : i = 64 := by omega
      have hr1 : wr.heap[w.heap.size + 1]? = some (.cells (encU (List.replicate 64 0)) 52) := by rw [HD.out.block _ (by omega)]; exact HH1.out
      go_upto_region 12 with fail
      apply wp_region_lit
      refine wpList_load_arr wr rfl (.tmp 3) (w.heap.size + 1 + 1) _ _ 52 _ _ _ rfl rfl HR.out Tryf.underlying52 (by rw [encU_size, rowW_length L p 64 (by omega)]; exact info64) ?_
      refine wpList_store_arr wr rfl (.tmp 2) (.tmp 59) (w.heap.size + 1) _ 52 _ _ rfl rfl rfl hr1 (by rw [encU_size, rowW_length L p 64 (by omega)]; exact info64) (by rw [encU_size, encU_size, rowW_length L p 64 (by omega)]; rfl) (encU_one _) ?_
      go_wp2
      refine ret_arr (p := 2) (ty := 52) (b := w.heap.size + 1) rfl rfl (setRow_heap wr (w.heap.size + 1) _ _ _ _ hr1) Tryf.underlying52 (by rw [encU_size, rowW_length L p 64 (by omega)]; exact info64) rfl ⟨?_, ?_⟩
      · rw [rowW_all]
      · exact below_setRow (HB0.out.trans (HD.out.mono (by omega))) (by omega) _
end Go.Proofs.YtooaiamfbmjmnaaFmt
