/- The program's MD5 of one block. -/
import Derived.Test.YtooaiamfbmjmnaaFmtArr
namespace Go.Proofs.YtooaiamfbmjmnaaFmt
open Go.RowKit

theorem stepI (i : Nat) (hi : i < 64) (xa xb xc xd : Int) (v : Four) (hv : v.ok) (h : Is4 xa xb xc xd v) (w : World) :
    Calls Tryf.prog 42 #[.int .i64 i, .int .u32 xb, .int .u32 xc, .int .u32 xd] w fun e w' => ∃ (f : Int) (g : Nat), e = .returned (.tuple #[.int .u32 f, .int .i64 g]) ∧ 0 ≤ f ∧ f < 4294967296 ∧ g < 16 ∧ Hid (f = md5F i v) ∧ Hid (g = md5G i) ∧ w' = w := by
  obtain ⟨rfl, rfl, rfl, rfl⟩ := h
  exact step_any i hi v hv w
theorem turns_at (i : Nat) (h : i < 64) : turnsL.getD (i / 16 * 4 + i % 4) 0 ≤ 31 := by
  have : ∀ i : Fin 64, turnsL.getD (i.val / 16 * 4 + i.val % 4) 0 ≤ 31 := by decide
  exact this ⟨i, h⟩
def wordsL (little : Bool) (L : List UInt8) (o : Nat) : List Nat := (List.range 16).map fun j => wordAt little L (o + 4 * j)
theorem wordsL_length (little : Bool) (L : List UInt8) (o : Nat) : (wordsL little L o).length = 16 := by simp [wordsL]
theorem wordsL_at (little : Bool) (L : List UInt8) (o j : Nat) (h : j < 16) : (wordsL little L o).getD j 0 = wordAt little L (o + 4 * j) := by
  simp [wordsL, List.getD_eq_getElem?_getD, List.getElem?_map, List.getElem?_range h]
theorem encU_at (l : List Nat) (j : Nat) (h : j < l.length) : (encU l)[j]? = some (.int .u32 ((l.getD j 0 : Nat) : Int)) := by
  simp [encU, h]
theorem rol_eq (n k : Int) (h0 : 0 ≤ n) (h1 : n < 4294967296) (hk0 : 0 ≤ k) (hk : k ≤ 31) (w : World) (r : Int) (HR : Hid (r = rolN n.toNat k.toNat)) :
    Calls Tryf.prog 43 #[.int .u32 n, .int .i64 k] w fun e w' => e = .returned (.int .u32 r) ∧ w' = w := by
  refine (rol_any n k h0 h1 hk0 hk w).mono ?_
  rintro e w' ⟨r', rfl, _, _, HR', rfl⟩
  rw [HR.out, HR'.out]
  exact ⟨rfl, rfl⟩
def four (v : Four) : Array Value := #[.int .u32 v.a, .int .u32 v.b, .int .u32 v.c, .int .u32 v.d]
theorem info4 : (Tryf.prog.info? 58).map (·.size) = some 4 := by kernel_rfl
theorem three_blocks (w : World) (a b c : Obj) (k : Nat) : ((((w.alloc a).alloc b).alloc c).drewN k).heap[w.heap.size]? = some a ∧ ((((w.alloc a).alloc b).alloc c).drewN k).heap[w.heap.size + 1]? = some b ∧ ((((w.alloc a).alloc b).alloc c).drewN k).heap[w.heap.size + 2]? = some c := by
  have e : ((((w.alloc a).alloc b).alloc c).drewN k).heap = ((w.heap.push a).push b).push c := rfl
  rw [e]
  refine ⟨?_, ?_, ?_⟩
  · rw [Array.getElem?_push, if_neg (by simp; omega), Array.getElem?_push, if_neg (by simp), Array.getElem?_push, if_pos rfl]
  · rw [Array.getElem?_push, if_neg (by simp), Array.getElem?_push, if_pos (by simp)]
  · rw [Array.getElem?_push, if_pos (by simp)]
set_option maxHeartbeats 8000000 in
set_option maxRecDepth 100000 in
theorem mix_any (v : Four) (hv : v.ok) (L : List UInt8) (o : Nat) (w : World) (HS : Hid (Sines w)) (HTu : Hid (Turns w)) :
    Calls Tryf.prog 26 #[.agg (four v), .agg (encU (wordsL true L o))] w fun e w' => e = .returned (.agg (four (md5Add v (md5Rounds L o v 64)))) ∧ Below w.heap.size w w' := by
  unfold four
  have hl := encU_size (wordsL true L o)
  rw [wordsL_length] at hl
  go_enter Tryf.func26, Tryf.ntmps26
  go_wp2
  go_quiet (fail)
  go_wp2
  generalize hW : World.drewN _ _ = W0
  have hB0 : Below w.heap.size w W0 := by
    rw [← hW]
    exact below_drewN ((((Below.refl _ _).alloc (Nat.le_refl _) _).alloc (by simp) _).alloc (by simp; omega) _) _
  have hsz : w.heap.size + 3 = W0.heap.size := by rw [← hW]; simp [World.drewN]
  obtain ⟨h0, h1, h2⟩ : W0.heap[w.heap.size]? = some (.cells #[.int .u32 v.a, .int .u32 v.b, .int .u32 v.c, .int .u32 v.d] 58) ∧ W0.heap[w.heap.size + 1]? = some (.cells (encU (wordsL true L o)) 54) ∧ W0.heap[w.heap.size + 2]? = some (.cells #[.int .u32 0, .int .u32 0, .int .u32 0, .int .u32 0] 58) := by
    rw [← hW]
    exact three_blocks _ _ _ _ _
  clear hW
  have HH1 : Hid (W0.heap[w.heap.size + 1]? = some (.cells (encU (wordsL true L o)) 54)) := h1
  have HH0 : Hid (W0.heap[w.heap.size]? = some (.cells #[.int .u32 v.a, .int .u32 v.b, .int .u32 v.c, .int .u32 v.d] 58)) := h0
  have HH2 : Hid (W0.heap[w.heap.size + 2]? = some (.cells #[.int .u32 0, .int .u32 0, .int .u32 0, .int .u32 0] 58)) := h2
  have HB0 : Hid (Below w.heap.size w W0) := hB0
  clear h0 h1 h2 hB0
  go_loopw [5, 6, 7, 8, 20] (fun va vb vc vd vi wx => ∃ (i : Nat) (xa xb xc xd : Int), i ≤ 64 ∧ vi = .int .i64 i ∧ va = .int .u32 xa ∧ vb = .int .u32 xb ∧ vc = .int .u32 xc ∧ vd = .int .u32 xd
        ∧ 0 ≤ xa ∧ xa < 4294967296 ∧ 0 ≤ xb ∧ xb < 4294967296 ∧ 0 ≤ xc ∧ xc < 4294967296 ∧ 0 ≤ xd ∧ xd < 4294967296 ∧ Hid (Is4 xa xb xc xd (md5Rounds L o v i)) ∧ Hid (Below W0.heap.size W0 wx)) (fun _ _ _ _ i _ => 64 - (intOf i).toNat)
  case atStart => exact ⟨0, _, _, _, _, by omega, rfl, rfl, rfl, rfl, rfl, by omega, by have := hv.1; omega, by omega, by have := hv.2.1; omega, by omega, by have := hv.2.2.1; omega, by omega, by have := hv.2.2.2; omega, ⟨rfl, rfl, rfl, rfl⟩, Below.refl _ _⟩
  case round =>
    obtain ⟨i, xa, xb, xc, xd, hi, rfl, rfl, rfl, rfl, rfl, e0, e1, f0, f1, g0, g1, h0, h1, HJ, HD⟩ := hrel
    have hbw : ∀ b, b < W0.heap.size → wr.heap[b]? = W0.heap[b]? := fun b hb => HD.out.block b hb
    by_cases hlt : i < 64
    · obtain ⟨z, hz⟩ : ∃ z : Int, ((sinesL.getD i 0 : Nat) : Int) = z := ⟨_, rfl⟩
      have HZ : Hid (z = ((sinesL.getD i 0 : Nat) : Int)) := hz.symm
      have hsin : wr.cell? ⟨2, i, none⟩ = some (.int .u32 z) := by
        have := HS.out.1 i hlt
        have hgs := HS.out.2
        rw [hz] at this
        rw [← this]
        simp only [World.cell?, hbw _ (Nat.lt_of_lt_of_le hgs (by omega)), HB0.out.block _ hgs]
      have hz0 : 0 ≤ z := by omega
      have hz1 : z < 4294967296 := by have := sines_lt i hlt; omega
      obtain ⟨q, hq⟩ : ∃ q : Nat, (i : Int) / 16 = (q : Int) := ⟨i / 16, by omega⟩
      obtain ⟨r, hr⟩ : ∃ q : Nat, (i : Int) % 4 = (q : Int) := ⟨i % 4, by omega⟩
      have hq4 : q < 4 := by omega
      have hr4 : r < 4 := by omega
      obtain ⟨kk, hkk⟩ : ∃ kk : Int, ((turnsL.getD (q * 4 + r) 0 : Nat) : Int) = kk := ⟨_, rfl⟩
      have eqr : q * 4 + r = i / 16 * 4 + i % 4 := by omega
      have HKK : Hid (kk = turnAt i) := by show _ = _; rw [← hkk, turnAt, eqr]
      have hk0 : 0 ≤ kk := by omega
      have hk1 : kk ≤ 31 := by have := turns_at i hlt; rw [← eqr] at this; omega
      have htur : wr.cell? ⟨3, q * 4 + r, none⟩ = some (.int .i64 kk) := by
        have := HTu.out.1 (q * 4 + r) (by omega)
        have hgs := HTu.out.2
        rw [hkk] at this
        rw [← this]
        simp only [World.cell?, hbw _ (Nat.lt_of_lt_of_le hgs (by omega)), HB0.out.block _ hgs]
      clear hz hkk eqr
      go_wp2_with (go_at_call 42; refine (stepI i hlt xa xb xc xd _ (md5Rounds_ok L o v hv i) HJ.out _).mono ?_; rintro e w2 ⟨f, y, rfl, hf0, hf1, hy16, HFF, HY, hw2⟩; rw [hw2]; clear hw2 w2)
      obtain ⟨nn, hnn⟩ : ∃ nn : Int, ((wordAt true L (o + 4 * y) : Nat) : Int) = nn := ⟨_, rfl⟩
      have HNN : Hid (nn = ((wordAt true L (o + 4 * y) : Nat) : Int)) := hnn.symm
      have hn0 : 0 ≤ nn := by omega
      have hn1 : nn < 4294967296 := by have := wordAt_lt true L (o + 4 * y); omega
      have hwrd : wr.cell? ⟨w.heap.size + 1, y, none⟩ = some (.int .u32 nn) := by
        simp only [World.cell?, hbw _ (show w.heap.size + 1 < W0.heap.size by omega), HH1.out]
        rw [encU_at _ _ (by rw [wordsL_length]; exact hy16), wordsL_at _ _ _ _ hy16, hnn]
        rfl
      clear hnn
      go_quiet (fail)
      obtain ⟨T, hT⟩ : ∃ T : Int, (f + (xa + z + nn) % 4294967296) % 4294967296 = T := ⟨_, rfl⟩
      have hT0 : 0 ≤ T := by omega
      have hT1 : T < 4294967296 := by omega
      have HTT : Hid ((f + xa + z + nn) % 4294967296 = T) := by show _ = _; omega
      rw [hT]
      clear hT
      obtain ⟨R, hR0, hR1, HR⟩ := rol_bounds T kk hT0 hT1 hk0 hk1
      have HNX : Hid (Is4 xd ((xb + R) % 4294967296) xb xc (md5Rounds L o v (i + 1))) :=
        md5_next L o i xa xb xc xd f z nn kk T R (4 * y) y _ HJ.out HFF.out HZ.out HNN.out rfl HY.out HKK.out HTT.out HR.out
      clear hwrd hsin HNN HFF HZ HY HTT
      go_wp2_with (go_at_call 43; refine (rol_eq T kk hT0 hT1 hk0 hk1 _ R HR).mono ?_; rintro e w2 ⟨rfl, hw2⟩; rw [hw2]; clear hw2 w2)
      go_roundw
      case rel => exact ⟨i + 1, xd, (xb + R) % 4294967296, xb, xc, by omega, by go_num, rfl, rfl, rfl, rfl, by omega, by omega, by omega, by omega, by omega, by omega, by omega, by omega, HNX, below_drewN HD.out _⟩
      case measure => simp [intOf]; omega
    · obtain rfl : i = 64 := by omega
      have hc : ∀ k x, #[Value.int .u32 v.a, .int .u32 v.b, .int .u32 v.c, .int .u32 v.d][k]? = some x → wr.cell? ⟨w.heap.size, k, none⟩ = some x := by
        intro k x hx
        simp only [World.cell?, hbw _ (show w.heap.size < W0.heap.size by omega), HH0.out]
        exact hx
      have hc0 := hc 0 _ rfl
      have hc1 := hc 1 _ rfl
      have hc2 := hc 2 _ rfl
      have hc3 := hc 3 _ rfl
      have hcr : ∀ k x, #[Value.int .u32 0, .int .u32 0, .int .u32 0, .int .u32 0][k]? = some x → wr.cell? ⟨w.heap.size + 1 + 1, k, none⟩ = some x ∧ wr.frozen? ⟨w.heap.size + 1 + 1, k, none⟩ = false := by
        intro k x hx
        have e := HH2.out
        rw [← hbw _ (show w.heap.size + 2 < W0.heap.size by omega)] at e
        constructor
        · simp only [World.cell?, e]
          exact hx
        · simp [World.frozen?, e]
      obtain ⟨hr0, fr0⟩ := hcr 0 _ rfl
      obtain ⟨hr1, fr1⟩ := hcr 1 _ rfl
      obtain ⟨hr2, fr2⟩ := hcr 2 _ rfl
      obtain ⟨hr3, fr3⟩ := hcr 3 _ rfl
      clear hc hcr
      go_wp2
      have e2 := HH2.out
      rw [← hbw _ (show w.heap.size + 2 < W0.heap.size by omega)] at e2
      refine ret_arr (p := 4) (ty := 58) (b := w.heap.size + 1 + 1) rfl rfl (row_set _ _ _ _ _ _ _ (row_set _ _ _ _ _ _ _ (row_set _ _ _ _ _ _ _ (row_set _ _ _ _ _ _ _ e2)))) Tryf.underlying58 info4 rfl ⟨?_, ?_⟩
      · obtain ⟨q1, q2, q3, q4⟩ := HJ.out
        subst q1 q2 q3 q4
        simp [md5Add]
      · have hs0 := HB0.out.size
        exact ((((HB0.out.trans (HD.out.mono (by omega))).setCell (by simp; omega) _).setCell (by simp; omega) _).setCell (by simp; omega) _).setCell (by simp; omega) _
end Go.Proofs.YtooaiamfbmjmnaaFmt
