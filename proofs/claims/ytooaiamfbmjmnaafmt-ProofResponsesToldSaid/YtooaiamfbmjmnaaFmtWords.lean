/- The program's words of a block: four bytes each. -/
import Derived.Test.YtooaiamfbmjmnaaFmtMix5
import Derived.Deep.RegionWith
import Derived.Deep.Cut
namespace Go.Proofs.YtooaiamfbmjmnaaFmt
open Go.RowKit

/-- The first m bytes of word j, as a number. -/
def partW (o : Bool) (L : List UInt8) (p j : Nat) : Nat → Nat
  | 0 => 0
  | m + 1 => partW o L p j m + (L.getD (p + 4 * j + m) 0).toNat * 2 ^ shiftN o m 4
theorem partW_four (o : Bool) (L : List UInt8) (p j : Nat) : partW o L p j 4 = wordAt (!o) L (p + 4 * j) := by
  cases o <;> simp [partW, wordAt, shiftN] <;> omega
theorem partW_lt (o : Bool) (L : List UInt8) (p j m : Nat) (h : m ≤ 4) : partW o L p j m < 4294967296 := by
  have h0 := (L.getD (p + 4 * j) 0).toNat_lt
  have h1 := (L.getD (p + 4 * j + 1) 0).toNat_lt
  have h2 := (L.getD (p + 4 * j + 2) 0).toNat_lt
  have h3 := (L.getD (p + 4 * j + 3) 0).toNat_lt
  obtain rfl | rfl | rfl | rfl | rfl : m = 0 ∨ m = 1 ∨ m = 2 ∨ m = 3 ∨ m = 4 := by omega
  all_goals cases o <;> simp only [partW, shiftN, if_true, if_false, Bool.false_eq_true, Nat.add_zero] <;> omega
theorem partW_or (o : Bool) (L : List UInt8) (p j m : Nat) (h : m < 4) : partW o L p j m ||| (L.getD (p + 4 * j + m) 0).toNat * 2 ^ shiftN o m 4 = partW o L p j (m + 1) := by
  have hc := (L.getD (p + 4 * j + m) 0).toNat_lt
  rw [partW]
  cases o
  · have e : shiftN false m 4 = 8 * m := by simp [shiftN]
    have hl : partW false L p j m < 2 ^ (8 * m) := by
      have h0 := (L.getD (p + 4 * j) 0).toNat_lt
      have h1 := (L.getD (p + 4 * j + 1) 0).toNat_lt
      have h2 := (L.getD (p + 4 * j + 2) 0).toNat_lt
      obtain rfl | rfl | rfl | rfl : m = 0 ∨ m = 1 ∨ m = 2 ∨ m = 3 := by omega
      all_goals simp only [partW, shiftN, if_false, Bool.false_eq_true, Nat.add_zero] <;> omega
    rw [e, Nat.or_comm, Nat.mul_comm, Nat.add_comm (partW false L p j m), Nat.two_pow_add_eq_or_of_lt hl]
  · have e : shiftN true m 4 = 8 * (3 - m) := by simp [shiftN]
    obtain ⟨q, hq⟩ : ∃ q, partW true L p j m = 2 ^ (8 * (3 - m) + 8) * q := by
      obtain rfl | rfl | rfl | rfl : m = 0 ∨ m = 1 ∨ m = 2 ∨ m = 3 := by omega
      · exact ⟨0, by simp [partW]⟩
      · exact ⟨(L.getD (p + 4 * j) 0).toNat, by simp only [partW, shiftN, if_true, Nat.add_zero]; omega⟩
      · exact ⟨(L.getD (p + 4 * j) 0).toNat * 256 + (L.getD (p + 4 * j + 1) 0).toNat, by simp only [partW, shiftN, if_true, Nat.add_zero]; omega⟩
      · exact ⟨(L.getD (p + 4 * j) 0).toNat * 65536 + (L.getD (p + 4 * j + 1) 0).toNat * 256 + (L.getD (p + 4 * j + 2) 0).toNat, by simp only [partW, shiftN, if_true, Nat.add_zero]; omega⟩
    rw [hq, e, Nat.two_pow_add_eq_or_of_lt]
    rw [Nat.pow_add, Nat.mul_comm]
    exact Nat.mul_lt_mul_of_pos_left hc (Nat.two_pow_pos _)
def wordsI (o : Bool) (L : List UInt8) (p i : Nat) : List Nat := (List.range 16).map fun j => partW o L p j (min 4 (i - 4 * j))
theorem wordsI_length (o : Bool) (L : List UInt8) (p i : Nat) : (wordsI o L p i).length = 16 := by simp [wordsI]
theorem wordsI_zero (o : Bool) (L : List UInt8) (p : Nat) : wordsI o L p 0 = List.replicate 16 0 := by
  simp [wordsI, partW]
  rfl
theorem wordsI_all (o : Bool) (L : List UInt8) (p : Nat) : wordsI o L p 64 = wordsL (!o) L p := by
  apply List.ext_getElem
  · simp [wordsI, wordsL]
  intro j h1 h2
  have hj : j < 16 := by simpa [wordsI] using h1
  have e : min 4 (64 - 4 * j) = 4 := by omega
  simp [wordsI, wordsL, e, partW_four]
theorem wordsI_succ (o : Bool) (L : List UInt8) (p i : Nat) : wordsI o L p (i + 1) = (wordsI o L p i).set (i / 4) (partW o L p (i / 4) (i % 4 + 1)) := by
  apply List.ext_getElem
  · simp [wordsI]
  intro j h1 h2
  rw [List.getElem_set]
  simp only [wordsI, List.getElem_map, List.getElem_range]
  split
  · rename_i h
    subst h
    congr 1
    omega
  · congr 1
    omega
theorem wordsI_at (o : Bool) (L : List UInt8) (p i : Nat) (hi : i < 64) : (wordsI o L p i).getD (i / 4) 0 = partW o L p (i / 4) (i % 4) := by
  have e : min 4 (i - 4 * (i / 4)) = i % 4 := by omega
  simp [wordsI, List.getD_eq_getElem?_getD, List.getElem?_map, List.getElem?_range (show i / 4 < 16 by omega), e]
theorem info16 : (Tryf.prog.info? 54).map (·.size) = some 16 := by kernel_rfl
theorem two_blocks (w : World) (a b : Obj) : ((w.alloc a).alloc b).heap[w.heap.size]? = some a ∧ ((w.alloc a).alloc b).heap[w.heap.size + 1]? = some b := by
  have e : ((w.alloc a).alloc b).heap = (w.heap.push a).push b := rfl
  rw [e]
  refine ⟨?_, ?_⟩
  · rw [Array.getElem?_push, if_neg (by simp), Array.getElem?_push, if_pos rfl]
  · rw [Array.getElem?_push, if_pos (by simp)]
set_option maxHeartbeats 8000000 in
set_option maxRecDepth 100000 in
theorem words_any (o : Bool) (L : List UInt8) (B p len cap : Nat) (hp : p + 64 ≤ L.length) (hlen : 64 ≤ len) (w : World) (HC : Hid (Cells w B L)) (hB : B < w.heap.size) :
    Calls Tryf.prog 24 #[.bool o, .slice (some ⟨B, p, none⟩) len cap] w fun e w' => e = .returned (.agg (encU (wordsL (!o) L p))) ∧ Below w.heap.size w w' := by
  go_enter Tryf.func24, Tryf.ntmps24
  go_wp2
  generalize hW : World.alloc (World.alloc _ _) _ = W0
  have hB0 : Below w.heap.size w W0 := by
    rw [← hW]
    exact ((Below.refl _ _).alloc (Nat.le_refl _) _).alloc (by simp) _
  have hsz : W0.heap.size = w.heap.size + 2 := by rw [← hW]; simp
  have h0 : W0.heap[w.heap.size]? = some (.cells (encU (List.replicate 16 0)) 54) := by
    rw [← hW]
    exact (two_blocks _ _ _).1
  have h1 : W0.heap[w.heap.size + 1]? = some (.cells (encU (List.replicate 16 0)) 54) := by
    rw [← hW]
    exact (two_blocks _ _ _).2
  clear hW
  have HB0 : Hid (Below w.heap.size w W0) := hB0
  have HH0 : Hid (W0.heap[w.heap.size]? = some (.cells (encU (List.replicate 16 0)) 54)) := h0
  have HH1 : Hid (W0.heap[w.heap.size + 1]? = some (.cells (encU (List.replicate 16 0)) 54)) := h1
  clear h0 h1 hB0
  go_loopw [7] (fun vi wx => ∃ (i : Nat), i ≤ 64 ∧ vi = .int .i64 i ∧ Hid (wx.heap[w.heap.size + 1]? = some (.cells (encU (wordsI o L p i)) 54)) ∧ Hid (Below (w.heap.size + 1) W0 wx)) (fun i _ => 64 - (intOf i).toNat)
  case atStart => exact ⟨0, by omega, rfl, by rw [wordsI_zero]; exact HH1, Below.refl _ _⟩
  case round =>
    obtain ⟨i, hi, rfl, HR, HD⟩ := hrel
    by_cases hlt : i < 64
    · obtain ⟨q, hq⟩ : ∃ q : Nat, (i : Int) / 4 = (q : Int) := ⟨i / 4, by omega⟩
      obtain ⟨r, hr⟩ : ∃ q : Nat, (i : Int) % 4 = (q : Int) := ⟨i % 4, by omega⟩
      have hq4 : q < 16 := by omega
      have hr4 : r < 4 := by omega
      have HQ : Hid (q = i / 4 ∧ r = i % 4) := ⟨by omega, by omega⟩
      obtain ⟨X, hX⟩ : ∃ X : Int, ((partW o L p (i / 4) (i % 4) : Nat) : Int) = X := ⟨_, rfl⟩
      have HX : Hid (X = (partW o L p (i / 4) (i % 4) : Nat)) := hX.symm
      have hx0 : 0 ≤ X := by omega
      have hx1 : X < 4294967296 := by have := partW_lt o L p (i / 4) (i % 4) (by omega); omega
      have hcel : wr.cell? ⟨w.heap.size + 1, q, none⟩ = some (.int .u32 X) := by
        rw [cell_of_row _ _ q _ _ _ HR.out, encU_at _ _ (by rw [wordsI_length]; exact hq4), HQ.out.1, wordsI_at _ _ _ _ hlt, hX]
      have hfro : wr.frozen? ⟨w.heap.size + 1, q, none⟩ = false := by simp [World.frozen?, HR.out]
      obtain ⟨c, hc⟩ : ∃ c : UInt8, L[p + i] = c := ⟨_, rfl⟩
      have hctext : wr.cell? ⟨B, p + i, none⟩ = some (.int .u8 (c.toNat : Int)) := by
        have := HC.out (p + i) (by omega)
        rw [hc] at this
        rw [← this]
        simp only [World.cell?, HD.out.block B (by omega), HB0.out.block B hB]
      have hcl : (c.toNat : Int) < 256 := by have := c.toNat_lt; omega
      have HCC : Hid (L.getD (p + i) 0 = c) := by
        show _ = _
        rw [List.getD_eq_getElem?_getD, List.getElem?_eq_getElem (by omega), hc]
        rfl
      obtain ⟨sh, hsh⟩ : ∃ sh : Nat, shiftN o r 4 = sh := ⟨_, rfl⟩
      have hsh2 : sh ≤ 24 := by rw [← hsh, shiftN]; split <;> omega
      have hli : (i : Int) < len := by omega
      clear hX hc
      go_wp2
      have hqt : (i : Int).tdiv 4 = q := by rw [Int.tdiv_eq_ediv_of_nonneg (by omega)]; exact hq
      have hrt : (i : Int).tmod 4 = r := by rw [Int.tmod_eq_emod_of_nonneg (by omega)]; exact hr
      have hqw : IntKind.i64.wrap (q : Int) = q := wrap64 q (by omega)
      have hrw : IntKind.i64.wrap (r : Int) = r := wrap64 r (by omega)
      have hqb : (q : Int) < 16 := by omega
      have HV : Hid (bits .or .u32 X (IntKind.u32.wrap (IntKind.u32.wrap (c.toNat : Int) * 2 ^ sh)) = ((partW o L p (i / 4) (i % 4 + 1) : Nat) : Int)) := by
        show _ = _
        have hcl2 := c.toNat_lt
        have hsm : c.toNat * 2 ^ sh < 4294967296 := by
          have : (2 : Nat) ^ sh ≤ 2 ^ 24 := Nat.pow_le_pow_right (by decide) hsh2
          have h3 : c.toNat * 2 ^ sh ≤ 255 * 2 ^ 24 := Nat.mul_le_mul (by omega) this
          omega
        have e1 : IntKind.u32.wrap (c.toNat : Int) * 2 ^ sh = ((c.toNat * 2 ^ sh : Nat) : Int) := by
          rw [wrapU32_lt _ (by omega)]
          simp
        rw [e1, wrapU32_lt _ hsm, HX.out, orU32 _ _ (partW_lt o L p _ _ (by omega)) hsm, ← partW_or o L p _ _ (by omega)]
        have e2 : p + 4 * (i / 4) + i % 4 = p + i := by omega
        rw [e2, HCC.out, ← HQ.out.2, hsh]
      have HNX : ∀ W, W = wr.setCell ⟨w.heap.size + 1, q, none⟩ (.int .u32 (bits .or .u32 X (IntKind.u32.wrap (IntKind.u32.wrap (c.toNat : Int) * 2 ^ sh)))) → W.heap[w.heap.size + 1]? = some (.cells (encU (wordsI o L p (i + 1))) 54) ∧ Below (w.heap.size + 1) W0 W := by
        intro W hW
        subst hW
        refine ⟨?_, HD.out.setCell (Nat.le_refl _) _⟩
        rw [row_set _ _ _ _ _ _ _ HR.out, encU_set _ _ _ _ HV.out, HQ.out.1, ← wordsI_succ o L p i]
      have HNX2 : Hid (∀ W, W = wr.setCell ⟨w.heap.size + 1, q, none⟩ (.int .u32 (bits .or .u32 X (IntKind.u32.wrap (IntKind.u32.wrap (c.toNat : Int) * 2 ^ sh)))) → W.heap[w.heap.size + 1]? = some (.cells (encU (wordsI o L p (i + 1))) 54) ∧ Below (w.heap.size + 1) W0 W) := HNX
      clear HNX HV
      go_region_with (go_at_call 39; refine (shift_any o r 4 hr4 (by omega) _).mono ?_; rintro e w2 ⟨rfl, hw2⟩; rw [hw2, hsh]; clear hw2 w2)
      all_goals
        obtain ⟨HA, HB⟩ := HNX2.out _ rfl
        generalize World.setCell _ _ _ = WX at HA HB ⊢
        have HA2 : Hid (WX.heap[w.heap.size + 1]? = some (.cells (encU (wordsI o L p (i + 1))) 54)) := HA
        have HB2 : Hid (Below (w.heap.size + 1) W0 WX) := HB
        clear HA HB HNX2
        go_wp2
        go_roundw
        case rel => exact ⟨i + 1, by omega, by go_num, HA2, HB2.out.drew⟩
        case measure => simp [intOf]; omega
    · obtain rfl : i = 64 := by omega
      have hr0 : wr.heap[w.heap.size]? = some (.cells (encU (List.replicate 16 0)) 54) := by rw [HD.out.block _ (by omega)]; exact HH0.out
      go_upto_region 7 with fail
      apply wp_region_lit
      refine wpList_load_arr wr rfl (.tmp 5) (w.heap.size + 1) _ _ 54 _ _ _ rfl rfl HR.out Tryf.underlying54 (by rw [encU_size, wordsI_length]; exact info16) ?_
      refine wpList_store_arr wr rfl (.tmp 4) (.tmp 27) w.heap.size _ 54 _ _ rfl rfl rfl hr0 (by rw [encU_size, wordsI_length]; exact info16) (by rw [encU_size, encU_size, wordsI_length]; rfl) (encU_one _) ?_
      go_wp2
      refine ret_arr (p := 4) (ty := 54) (b := w.heap.size) rfl rfl (setRow_heap wr w.heap.size _ _ _ _ hr0) Tryf.underlying54 (by rw [encU_size, wordsI_length]; exact info16) rfl ⟨?_, ?_⟩
      · rw [wordsI_all]
      · exact below_setRow (HB0.out.trans (HD.out.mono (by omega))) (Nat.le_refl _) _
end Go.Proofs.YtooaiamfbmjmnaaFmt
