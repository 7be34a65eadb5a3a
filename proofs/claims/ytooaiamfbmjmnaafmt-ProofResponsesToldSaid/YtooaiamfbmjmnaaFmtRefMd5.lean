/- The document's own MD5 is the sum over lists of bytes. -/
import Derived.Test.YtooaiamfbmjmnaaFmtRefPad
import Derived.Test.YtooaiamfbmjmnaaFmtB32
namespace Go.Proofs.YtooaiamfbmjmnaaFmt
open Go.RowKit
open Go.Extern.Stop Go.Stop Go.Extern

theorem f_one (xb xc xd : Int) (v : Four) (xa : Int) (hv : v.ok) (h : Is4 xa xb xc xd v) (i : Nat) (hi : i < 16) : ∃ f : Int, bits .or .i64 (bits .and .i64 xb xc) (bits .and .i64 (4294967295 - xb) xd) = f ∧ 0 ≤ f ∧ f < 4294967296 ∧ Hid (f = md5F i v) := by
  obtain ⟨rfl, rfl, rfl, rfl⟩ := h
  have hl := md5F_lt i v hv
  obtain ⟨ha, hb, hc, hd⟩ := hv
  have e : md5F i v = (v.b &&& v.c) ||| (notN v.b &&& v.d) := by rw [md5F, if_pos hi]
  refine ⟨_, rfl, ?_⟩
  rw [notCast _ hb, and64 _ _ hb hc, and64 _ _ (notN_lt _) hd, or64 _ _ (and32_lt hc) (and32_lt hd), ← e]
  exact ⟨by omega, by omega, rfl⟩
theorem f_two (xb xc xd : Int) (v : Four) (xa : Int) (hv : v.ok) (h : Is4 xa xb xc xd v) (i : Nat) (h0 : 16 ≤ i) (hi : i < 32) : ∃ f : Int, bits .or .i64 (bits .and .i64 xd xb) (bits .and .i64 (4294967295 - xd) xc) = f ∧ 0 ≤ f ∧ f < 4294967296 ∧ Hid (f = md5F i v) := by
  obtain ⟨rfl, rfl, rfl, rfl⟩ := h
  have hl := md5F_lt i v hv
  obtain ⟨ha, hb, hc, hd⟩ := hv
  have e : md5F i v = (v.d &&& v.b) ||| (notN v.d &&& v.c) := by rw [md5F, if_neg (by omega), if_pos hi]
  refine ⟨_, rfl, ?_⟩
  rw [notCast _ hd, and64 _ _ hd hb, and64 _ _ (notN_lt _) hc, or64 _ _ (and32_lt hb) (and32_lt hc), ← e]
  exact ⟨by omega, by omega, rfl⟩
theorem f_three (xb xc xd : Int) (v : Four) (xa : Int) (hv : v.ok) (h : Is4 xa xb xc xd v) (i : Nat) (h0 : 32 ≤ i) (hi : i < 48) : ∃ f : Int, bits .xor .i64 (bits .xor .i64 xb xc) xd = f ∧ 0 ≤ f ∧ f < 4294967296 ∧ Hid (f = md5F i v) := by
  obtain ⟨rfl, rfl, rfl, rfl⟩ := h
  have hl := md5F_lt i v hv
  obtain ⟨ha, hb, hc, hd⟩ := hv
  have e : md5F i v = v.b ^^^ v.c ^^^ v.d := by rw [md5F, if_neg (by omega), if_neg (by omega), if_pos hi]
  refine ⟨_, rfl, ?_⟩
  rw [xor64 _ _ hb hc, xor64 _ _ (xor32_lt hb hc) hd, ← e]
  exact ⟨by omega, by omega, rfl⟩
theorem f_four (xb xc xd : Int) (v : Four) (xa : Int) (hv : v.ok) (h : Is4 xa xb xc xd v) (i : Nat) (h0 : 48 ≤ i) : ∃ f : Int, bits .xor .i64 xc (bits .or .i64 xb (4294967295 - xd)) = f ∧ 0 ≤ f ∧ f < 4294967296 ∧ Hid (f = md5F i v) := by
  obtain ⟨rfl, rfl, rfl, rfl⟩ := h
  have hl := md5F_lt i v hv
  obtain ⟨ha, hb, hc, hd⟩ := hv
  have e : md5F i v = v.c ^^^ (v.b ||| notN v.d) := by rw [md5F, if_neg (by omega), if_neg (by omega), if_neg (by omega)]
  refine ⟨_, rfl, ?_⟩
  rw [notCast _ hd, or64 _ _ hb (notN_lt _), xor64 _ _ hc (or32_lt hb (notN_lt _)), ← e]
  exact ⟨by omega, by omega, rfl⟩
theorem refNumber_eq (little : Bool) (L : List UInt8) (B p len cap : Nat) (hl : 4 ≤ len) (hp : p + 4 ≤ L.length) (hc : len ≤ 2000) (w : World) (HC : Hid (Cells w B L)) (nn : Int) (HN : Hid (nn = wordAt little L p)) :
    Calls Tryf.prog 32 #[.slice (some ⟨B, p, none⟩) len cap, .bool little] w fun e w' => e = .returned (.int .i64 nn) ∧ w' = w := by
  refine (refNumber little L B p len cap hl hp hc w HC).mono ?_
  rintro e w' ⟨r, rfl, _, _, HR, rfl⟩
  rw [HR.out, HN.out]
  exact ⟨rfl, rfl⟩
theorem refRol_eq (n k : Int) (h0 : 0 ≤ n) (h1 : n < 4294967296) (hk0 : 0 ≤ k) (hk : k ≤ 31) (w : World) (r : Int) (HR : Hid (r = rolN n.toNat k.toNat)) :
    Calls Tryf.prog 36 #[.int .i64 n, .int .i64 k] w fun e w' => e = .returned (.int .i64 r) ∧ w' = w := by
  refine (refRol n k h0 h1 hk0 hk w).mono ?_
  rintro e w' ⟨r', rfl, _, _, HR', rfl⟩
  rw [HR.out, HR'.out]
  exact ⟨rfl, rfl⟩
theorem tab0 (i r : Nat) (h : r < 4) (hi : i / 16 = 0) (hr : i % 4 = r) : ∃ kk : Int, ([Value.int .i64 7, Value.int .i64 12, Value.int .i64 17, Value.int .i64 22] : List Value)[r]'h = .int .i64 kk ∧ 0 ≤ kk ∧ kk ≤ 31 ∧ Hid (kk = (turnAt i : Int)) := by
  have e : turnAt i = turnsL.getD (0 * 4 + r) 0 := by rw [turnAt, hi, hr]
  obtain rfl | rfl | rfl | rfl : r = 0 ∨ r = 1 ∨ r = 2 ∨ r = 3 := by omega
  · exact ⟨7, rfl, by omega, by omega, by show _ = _; rw [e]; rfl⟩
  · exact ⟨12, rfl, by omega, by omega, by show _ = _; rw [e]; rfl⟩
  · exact ⟨17, rfl, by omega, by omega, by show _ = _; rw [e]; rfl⟩
  · exact ⟨22, rfl, by omega, by omega, by show _ = _; rw [e]; rfl⟩
theorem tab1 (i r : Nat) (h : r < 4) (hi : i / 16 = 1) (hr : i % 4 = r) : ∃ kk : Int, ([Value.int .i64 5, Value.int .i64 9, Value.int .i64 14, Value.int .i64 20] : List Value)[r]'h = .int .i64 kk ∧ 0 ≤ kk ∧ kk ≤ 31 ∧ Hid (kk = (turnAt i : Int)) := by
  have e : turnAt i = turnsL.getD (1 * 4 + r) 0 := by rw [turnAt, hi, hr]
  obtain rfl | rfl | rfl | rfl : r = 0 ∨ r = 1 ∨ r = 2 ∨ r = 3 := by omega
  · exact ⟨5, rfl, by omega, by omega, by show _ = _; rw [e]; rfl⟩
  · exact ⟨9, rfl, by omega, by omega, by show _ = _; rw [e]; rfl⟩
  · exact ⟨14, rfl, by omega, by omega, by show _ = _; rw [e]; rfl⟩
  · exact ⟨20, rfl, by omega, by omega, by show _ = _; rw [e]; rfl⟩
theorem tab2 (i r : Nat) (h : r < 4) (hi : i / 16 = 2) (hr : i % 4 = r) : ∃ kk : Int, ([Value.int .i64 4, Value.int .i64 11, Value.int .i64 16, Value.int .i64 23] : List Value)[r]'h = .int .i64 kk ∧ 0 ≤ kk ∧ kk ≤ 31 ∧ Hid (kk = (turnAt i : Int)) := by
  have e : turnAt i = turnsL.getD (2 * 4 + r) 0 := by rw [turnAt, hi, hr]
  obtain rfl | rfl | rfl | rfl : r = 0 ∨ r = 1 ∨ r = 2 ∨ r = 3 := by omega
  · exact ⟨4, rfl, by omega, by omega, by show _ = _; rw [e]; rfl⟩
  · exact ⟨11, rfl, by omega, by omega, by show _ = _; rw [e]; rfl⟩
  · exact ⟨16, rfl, by omega, by omega, by show _ = _; rw [e]; rfl⟩
  · exact ⟨23, rfl, by omega, by omega, by show _ = _; rw [e]; rfl⟩
theorem tab3 (i r : Nat) (h : r < 4) (hi : i / 16 = 3) (hr : i % 4 = r) : ∃ kk : Int, ([Value.int .i64 6, Value.int .i64 10, Value.int .i64 15, Value.int .i64 21] : List Value)[r]'h = .int .i64 kk ∧ 0 ≤ kk ∧ kk ≤ 31 ∧ Hid (kk = (turnAt i : Int)) := by
  have e : turnAt i = turnsL.getD (3 * 4 + r) 0 := by rw [turnAt, hi, hr]
  obtain rfl | rfl | rfl | rfl : r = 0 ∨ r = 1 ∨ r = 2 ∨ r = 3 := by omega
  · exact ⟨6, rfl, by omega, by omega, by show _ = _; rw [e]; rfl⟩
  · exact ⟨10, rfl, by omega, by omega, by show _ = _; rw [e]; rfl⟩
  · exact ⟨15, rfl, by omega, by omega, by show _ = _; rw [e]; rfl⟩
  · exact ⟨21, rfl, by omega, by omega, by show _ = _; rw [e]; rfl⟩
set_option maxHeartbeats 8000000 in
set_option maxRecDepth 100000 in
theorem refMd5 (F : Interp) (s : ByteArray) (hs : s.size ≤ 1000) (w : World) (hF : F.told.answers w.tape) (HS : Hid (Sines w)) :
    Calls Tryf.prog 17 #[.string s] w fun e w' => e = .returned (.string (bs (hexL (md5L s.data.toList)))) ∧ Below w.heap.size w w' := by
  go_enter Tryf.func17, Tryf.ntmps17
  go_wp2_with (go_at_call 31; refine (refPad true s hs _).mono ?_; rintro e w1 ⟨g, n, cap, rfl, hn, hnc, hgw, hgl, HC, hb1⟩; have HN : Hid (n = (s.size + 72) / 64 * 64) := hn; clear hn)
  obtain ⟨K, hK⟩ : ∃ K, (s.size + 72) / 64 = K := ⟨_, rfl⟩
  have hK2 : K ≤ 20 := by omega
  have HN2 : Hid (n = 64 * K) := by show _ = _; have := HN.out; omega
  obtain ⟨L, hL⟩ : ∃ L, padL true s.data.toList = L := ⟨_, rfl⟩
  have hLl : L.length = 64 * K := by rw [← hL, padL_length]; simp; omega
  rw [hL] at HC
  have HG : Hid (md5L s.data.toList = (md5Blocks L K).bytes) := by
    show _ = _
    rw [md5L, hL, ← hK]
    simp
  have HB1 : Hid (Below w.heap.size w w1) := hb1
  have HS1 : Hid (Sines w1) := ⟨fun i hi => by
      rw [← HS.out.1 i hi]
      simp only [World.cell?, hb1.block _ HS.out.2], Nat.lt_of_lt_of_le HS.out.2 hb1.size⟩
  clear hL hK HN HS hb1
  go_loopg [3, 4, 5, 6, 7] K (fun gh va vb vc vd vs wr => ∃ (k o m c : Nat) (xa xb xc xd : Int), k + gh = K ∧ Hid (0 < gh → o = 64 * k) ∧ Hid (m = 64 * gh) ∧ m ≤ c ∧ va = .int .i64 xa ∧ vb = .int .i64 xb ∧ vc = .int .i64 xc ∧ vd = .int .i64 xd ∧ vs = .slice (some ⟨g, o, none⟩) m c
    ∧ 0 ≤ xa ∧ xa < 4294967296 ∧ 0 ≤ xb ∧ xb < 4294967296 ∧ 0 ≤ xc ∧ xc < 4294967296 ∧ 0 ≤ xd ∧ xd < 4294967296 ∧ Hid (Is4 xa xb xc xd (md5Blocks L k)) ∧ Hid (Below w1.heap.size w1 wr))
  case atStart => exact ⟨0, 0, n, cap, _, _, _, _, by omega, fun _ => rfl, HN2, hnc, rfl, rfl, rfl, rfl, rfl, by omega, by omega, by omega, by omega, by omega, by omega, by omega, by omega, ⟨rfl, rfl, rfl, rfl⟩, Below.refl _ _⟩
  case round =>
    obtain ⟨k, o, m, c, ya, yb, yc, yd, hk, HO, HM, hmc, rfl, rfl, rfl, rfl, rfl, a0, a1, b0, b1, c0, c1, d0, d1, HI, HB⟩ := hrel
    cases gk with
    | zero =>
      obtain rfl : m = 0 := HM.out
      obtain rfl : k = K := by omega
      go_wp2_with fail
      refine (refDigits F true ya a0 a1 _ (by rw [HB.out.tape, HB1.out.tape]; exact hF)).mono ?_
      rintro e w2 ⟨t1, rfl, z1, T1, B1⟩
      go_wp2_with fail
      refine (refDigits F true yb b0 b1 _ (by rw [B1.tape, HB.out.tape, HB1.out.tape]; exact hF)).mono ?_
      rintro e w3 ⟨t2, rfl, z2, T2, B2⟩
      go_wp2_with fail
      refine (refDigits F true yc c0 c1 _ (by rw [B2.tape, B1.tape, HB.out.tape, HB1.out.tape]; exact hF)).mono ?_
      rintro e w4 ⟨t3, rfl, z3, T3, B3⟩
      go_wp2_with fail
      refine (refDigits F true yd d0 d1 _ (by rw [B3.tape, B2.tape, B1.tape, HB.out.tape, HB1.out.tape]; exact hF)).mono ?_
      rintro e w5 ⟨t4, rfl, z4, T4, B4⟩
      go_wp2
      go_ret
      refine ⟨ret_str ?_, ?_⟩
      · obtain ⟨q1, q2, q3, q4⟩ := HI.out
        rw [T1.out, T2.out, T3.out, T4.out, HG.out, q1, q2, q3, q4]
        simp only [Four.bytes, hexL_append, bs_append, if_true, Int.toNat_natCast]
      · have s0 := HB1.out.size
        have s1 := HB.out.size
        have s2 := B1.size
        have s3 := B2.size
        have s4 := B3.size
        exact (((((HB1.out.trans (HB.out.mono (by omega))).trans (B1.mono (by omega))).trans (B2.mono (by omega))).trans (B3.mono (by omega))).trans (B4.mono (by omega)))
    | succ gk =>
      have hm2 : 64 ≤ m := by have := HM.out; omega
      have hm3 : m ≤ 1280 := by have := HM.out; omega
      go_wp2
      have hdm : decide (0 < m) = true := by simp; omega
      rw [hdm]
      clear hdm
      go_loopw [8, 9, 10, 11, 28] (fun va vb vc vd vi wx => ∃ (i : Nat) (xa xb xc xd : Int), i ≤ 64 ∧ vi = .int .i64 i ∧ va = .int .i64 xa ∧ vb = .int .i64 xb ∧ vc = .int .i64 xc ∧ vd = .int .i64 xd
        ∧ 0 ≤ xa ∧ xa < 4294967296 ∧ 0 ≤ xb ∧ xb < 4294967296 ∧ 0 ≤ xc ∧ xc < 4294967296 ∧ 0 ≤ xd ∧ xd < 4294967296 ∧ Hid (Is4 xa xb xc xd (md5Rounds L o (md5Blocks L k) i)) ∧ Hid (Below w1.heap.size w1 wx)) (fun _ _ _ _ i _ => 64 - (intOf i).toNat)
      case atStart => exact ⟨0, ya, yb, yc, yd, by omega, rfl, rfl, rfl, rfl, rfl, a0, a1, b0, b1, c0, c1, d0, d1, HI, HB⟩
      case round =>
        obtain ⟨i, xa, xb, xc, xd, hi, rfl, rfl, rfl, rfl, rfl, e0, e1, f0, f1, g0, g1, h0, h1, HJ, HD⟩ := hrel
        by_cases hlt : i < 64
        · have HC2 : Hid (Cells wr g L) := HC.out.below HD.out hgl
          obtain ⟨z, hz⟩ : ∃ z : Int, ((sinesL.getD i 0 : Nat) : Int) = z := ⟨_, rfl⟩
          have HZ : Hid (z = ((sinesL.getD i 0 : Nat) : Int)) := hz.symm
          have hsin : wr.cell? ⟨2, i, none⟩ = some (.int .u32 z) := by
            have := HS1.out.1 i hlt
            simp only [World.cell?, HD.out.block _ HS1.out.2]
            rw [← hz]
            exact this
          have hz0 : 0 ≤ z := by omega
          have hz1 : z < 4294967296 := by have := sines_lt i hlt; omega
          clear hz
          have hok := md5Rounds_ok L o (md5Blocks L k) (md5Blocks_ok L k) i
          have HOK : Hid ((md5Rounds L o (md5Blocks L k) i).ok) := hok
          clear hok
          obtain hqn | hqn | hqn | hqn : i / 16 = 0 ∨ i / 16 = 1 ∨ i / 16 = 2 ∨ i / 16 = 3 := by omega
          · obtain ⟨f, hf, hf0, hf1, HFF⟩ := f_one xb xc xd _ xa HOK.out HJ.out i (by omega)
            obtain ⟨y, hy⟩ : ∃ y : Nat, (i : Int) % 16 = (y : Int) := ⟨i % 16, by omega⟩
            have hy16 : y < 16 := by omega
            have HY : Hid (y = md5G i) := by
              show _ = _
              unfold md5G
              rw [if_pos (by omega)]
              omega
            have hq : (i : Int) / 16 = 0 := by omega
            obtain ⟨r, hr⟩ : ∃ r : Nat, (i : Int) % 4 = (r : Int) := ⟨i % 4, by omega⟩
            have hr4 : r < 4 := by omega
            obtain ⟨kk, hkk, hk0, hk1, HKK⟩ := tab0 i r hr4 hqn (by omega)
            go_wp2_with (go_at_call 34; refine (refNot _ (by omega) (by omega) _).mono ?_; rintro e w2 ⟨rfl, hw2⟩; rw [hw2]; clear hw2 w2)
            generalize hW : World.alloc (World.alloc (World.alloc (World.alloc (World.alloc _ _) _) _) _) _ = W
            have hBW : Below wr.heap.size wr W := by
              rw [← hW]
              exact (((((Below.refl _ _).alloc (Nat.le_refl _) _).alloc (by simp) _).alloc (by simp; omega) _).alloc (by simp; omega) _).alloc (by simp; omega) _
            have HCW : Hid (Cells W g L) := HC2.out.below hBW (Nat.lt_of_lt_of_le hgl HD.out.size)
            have HDW : Hid (Below w1.heap.size w1 W) := HD.out.trans (hBW.mono HD.out.size)
            have hsinW : W.cell? ⟨2, i, none⟩ = some (.int .u32 z) := by
              rw [← hsin]
              simp only [World.cell?, hBW.block _ (Nat.lt_of_lt_of_le HS1.out.2 HD.out.size)]
            clear hW hBW hsin HC2 HD
            obtain ⟨p, hp⟩ : ∃ p : Nat, 4 * (y : Int) = (p : Int) := ⟨4 * y, by omega⟩
            have hp1 : p ≤ 60 := by omega
            have HP : Hid (p = 4 * y) := by show _ = _; omega
            obtain ⟨nn, hnn⟩ : ∃ nn : Int, ((wordAt true L (o + p) : Nat) : Int) = nn := ⟨_, rfl⟩
            have HNN : Hid (nn = ((wordAt true L (o + p) : Nat) : Int)) := hnn.symm
            have hn0 : 0 ≤ nn := by omega
            have hn1 : nn < 4294967296 := by have := wordAt_lt true L (o + p); omega
            clear hnn
            have hoL : o + p + 4 ≤ L.length := by have := HO.out (by omega); omega
            have hcne : ¬ (c = p) := by omega
            have hwp : IntKind.i64.wrap (p : Int) = p := wrap64 p (by omega)
            have hpm : p ≤ m := by omega
            go_quiet ((go_at_call 32; exact Calls.quiet_of_same (refNumber_eq true L g (o + p) _ _ (by omega) hoL (by omega) _ (HCW.out.drewN _) nn HNN)))
            obtain ⟨T, hT⟩ : ∃ T : Int, (f + xa + z + nn) % 4294967296 = T := ⟨_, rfl⟩
            have hT0 : 0 ≤ T := by omega
            have hT1 : T < 4294967296 := by omega
            have HTT : Hid ((f + xa + z + nn) % 4294967296 = T) := hT
            rw [hT]
            clear hT
            obtain ⟨R, hR0, hR1, HR⟩ := rol_bounds T kk hT0 hT1 hk0 hk1
            have HNX : Hid (Is4 xd ((xb + R) % 4294967296) xb xc (md5Rounds L o (md5Blocks L k) (i + 1))) :=
              md5_next L o i xa xb xc xd f z nn kk T R p y _ HJ.out HFF.out HZ.out HNN.out HP.out HY.out HKK.out HTT.out HR.out
            clear hp hf hy hq hr hcne hwp hpm hn0 hn1 hoL hsinW HNN HFF HZ HP HY HKK HTT
            go_wp2_with (go_at_call 36; refine (refRol_eq T kk hT0 hT1 hk0 hk1 _ R HR).mono ?_; rintro e w2 ⟨rfl, hw2⟩; rw [hw2]; clear hw2 w2)
            go_roundw
            case rel => exact ⟨i + 1, xd, (xb + R) % 4294967296, xb, xc, by omega, by go_num, rfl, rfl, rfl, rfl, by omega, by omega, by omega, by omega, by omega, by omega, by omega, by omega, HNX, below_drewN HDW.out _⟩
            case measure => simp [intOf]; omega
          · obtain ⟨f, hf, hf0, hf1, HFF⟩ := f_two xb xc xd _ xa HOK.out HJ.out i (by omega) (by omega)
            obtain ⟨y, hy⟩ : ∃ y : Nat, (5 * (i : Int) + 1) % 16 = (y : Int) := ⟨(5 * i + 1) % 16, by omega⟩
            have hy16 : y < 16 := by omega
            have HY : Hid (y = md5G i) := by
              show _ = _
              unfold md5G
              rw [if_neg (by omega), if_pos (by omega)]
              omega
            have hq : (i : Int) / 16 = 1 := by omega
            obtain ⟨r, hr⟩ : ∃ r : Nat, (i : Int) % 4 = (r : Int) := ⟨i % 4, by omega⟩
            have hr4 : r < 4 := by omega
            obtain ⟨kk, hkk, hk0, hk1, HKK⟩ := tab1 i r hr4 hqn (by omega)
            go_wp2_with (go_at_call 34; refine (refNot _ (by omega) (by omega) _).mono ?_; rintro e w2 ⟨rfl, hw2⟩; rw [hw2]; clear hw2 w2)
            generalize hW : World.alloc (World.alloc (World.alloc (World.alloc (World.alloc _ _) _) _) _) _ = W
            have hBW : Below wr.heap.size wr W := by
              rw [← hW]
              exact (((((Below.refl _ _).alloc (Nat.le_refl _) _).alloc (by simp) _).alloc (by simp; omega) _).alloc (by simp; omega) _).alloc (by simp; omega) _
            have HCW : Hid (Cells W g L) := HC2.out.below hBW (Nat.lt_of_lt_of_le hgl HD.out.size)
            have HDW : Hid (Below w1.heap.size w1 W) := HD.out.trans (hBW.mono HD.out.size)
            have hsinW : W.cell? ⟨2, i, none⟩ = some (.int .u32 z) := by
              rw [← hsin]
              simp only [World.cell?, hBW.block _ (Nat.lt_of_lt_of_le HS1.out.2 HD.out.size)]
            clear hW hBW hsin HC2 HD
            obtain ⟨p, hp⟩ : ∃ p : Nat, 4 * (y : Int) = (p : Int) := ⟨4 * y, by omega⟩
            have hp1 : p ≤ 60 := by omega
            have HP : Hid (p = 4 * y) := by show _ = _; omega
            obtain ⟨nn, hnn⟩ : ∃ nn : Int, ((wordAt true L (o + p) : Nat) : Int) = nn := ⟨_, rfl⟩
            have HNN : Hid (nn = ((wordAt true L (o + p) : Nat) : Int)) := hnn.symm
            have hn0 : 0 ≤ nn := by omega
            have hn1 : nn < 4294967296 := by have := wordAt_lt true L (o + p); omega
            clear hnn
            have hoL : o + p + 4 ≤ L.length := by have := HO.out (by omega); omega
            have hcne : ¬ (c = p) := by omega
            have hwp : IntKind.i64.wrap (p : Int) = p := wrap64 p (by omega)
            have hpm : p ≤ m := by omega
            go_quiet ((go_at_call 32; exact Calls.quiet_of_same (refNumber_eq true L g (o + p) _ _ (by omega) hoL (by omega) _ (HCW.out.drewN _) nn HNN)))
            obtain ⟨T, hT⟩ : ∃ T : Int, (f + xa + z + nn) % 4294967296 = T := ⟨_, rfl⟩
            have hT0 : 0 ≤ T := by omega
            have hT1 : T < 4294967296 := by omega
            have HTT : Hid ((f + xa + z + nn) % 4294967296 = T) := hT
            rw [hT]
            clear hT
            obtain ⟨R, hR0, hR1, HR⟩ := rol_bounds T kk hT0 hT1 hk0 hk1
            have HNX : Hid (Is4 xd ((xb + R) % 4294967296) xb xc (md5Rounds L o (md5Blocks L k) (i + 1))) :=
              md5_next L o i xa xb xc xd f z nn kk T R p y _ HJ.out HFF.out HZ.out HNN.out HP.out HY.out HKK.out HTT.out HR.out
            clear hp hf hy hq hr hcne hwp hpm hn0 hn1 hoL hsinW HNN HFF HZ HP HY HKK HTT
            go_wp2_with (go_at_call 36; refine (refRol_eq T kk hT0 hT1 hk0 hk1 _ R HR).mono ?_; rintro e w2 ⟨rfl, hw2⟩; rw [hw2]; clear hw2 w2)
            go_roundw
            case rel => exact ⟨i + 1, xd, (xb + R) % 4294967296, xb, xc, by omega, by go_num, rfl, rfl, rfl, rfl, by omega, by omega, by omega, by omega, by omega, by omega, by omega, by omega, HNX, below_drewN HDW.out _⟩
            case measure => simp [intOf]; omega
          · obtain ⟨f, hf, hf0, hf1, HFF⟩ := f_three xb xc xd _ xa HOK.out HJ.out i (by omega) (by omega)
            obtain ⟨y, hy⟩ : ∃ y : Nat, (3 * (i : Int) + 5) % 16 = (y : Int) := ⟨(3 * i + 5) % 16, by omega⟩
            have hy16 : y < 16 := by omega
            have HY : Hid (y = md5G i) := by
              show _ = _
              unfold md5G
              rw [if_neg (by omega), if_neg (by omega), if_pos (by omega)]
              omega
            have hq : (i : Int) / 16 = 2 := by omega
            obtain ⟨r, hr⟩ : ∃ r : Nat, (i : Int) % 4 = (r : Int) := ⟨i % 4, by omega⟩
            have hr4 : r < 4 := by omega
            obtain ⟨kk, hkk, hk0, hk1, HKK⟩ := tab2 i r hr4 hqn (by omega)
            go_wp2_with (go_at_call 34; refine (refNot _ (by omega) (by omega) _).mono ?_; rintro e w2 ⟨rfl, hw2⟩; rw [hw2]; clear hw2 w2)
            generalize hW : World.alloc (World.alloc (World.alloc (World.alloc (World.alloc _ _) _) _) _) _ = W
            have hBW : Below wr.heap.size wr W := by
              rw [← hW]
              exact (((((Below.refl _ _).alloc (Nat.le_refl _) _).alloc (by simp) _).alloc (by simp; omega) _).alloc (by simp; omega) _).alloc (by simp; omega) _
            have HCW : Hid (Cells W g L) := HC2.out.below hBW (Nat.lt_of_lt_of_le hgl HD.out.size)
            have HDW : Hid (Below w1.heap.size w1 W) := HD.out.trans (hBW.mono HD.out.size)
            have hsinW : W.cell? ⟨2, i, none⟩ = some (.int .u32 z) := by
              rw [← hsin]
              simp only [World.cell?, hBW.block _ (Nat.lt_of_lt_of_le HS1.out.2 HD.out.size)]
            clear hW hBW hsin HC2 HD
            obtain ⟨p, hp⟩ : ∃ p : Nat, 4 * (y : Int) = (p : Int) := ⟨4 * y, by omega⟩
            have hp1 : p ≤ 60 := by omega
            have HP : Hid (p = 4 * y) := by show _ = _; omega
            obtain ⟨nn, hnn⟩ : ∃ nn : Int, ((wordAt true L (o + p) : Nat) : Int) = nn := ⟨_, rfl⟩
            have HNN : Hid (nn = ((wordAt true L (o + p) : Nat) : Int)) := hnn.symm
            have hn0 : 0 ≤ nn := by omega
            have hn1 : nn < 4294967296 := by have := wordAt_lt true L (o + p); omega
            clear hnn
            have hoL : o + p + 4 ≤ L.length := by have := HO.out (by omega); omega
            have hcne : ¬ (c = p) := by omega
            have hwp : IntKind.i64.wrap (p : Int) = p := wrap64 p (by omega)
            have hpm : p ≤ m := by omega
            go_quiet ((go_at_call 32; exact Calls.quiet_of_same (refNumber_eq true L g (o + p) _ _ (by omega) hoL (by omega) _ (HCW.out.drewN _) nn HNN)))
            obtain ⟨T, hT⟩ : ∃ T : Int, (f + xa + z + nn) % 4294967296 = T := ⟨_, rfl⟩
            have hT0 : 0 ≤ T := by omega
            have hT1 : T < 4294967296 := by omega
            have HTT : Hid ((f + xa + z + nn) % 4294967296 = T) := hT
            rw [hT]
            clear hT
            obtain ⟨R, hR0, hR1, HR⟩ := rol_bounds T kk hT0 hT1 hk0 hk1
            have HNX : Hid (Is4 xd ((xb + R) % 4294967296) xb xc (md5Rounds L o (md5Blocks L k) (i + 1))) :=
              md5_next L o i xa xb xc xd f z nn kk T R p y _ HJ.out HFF.out HZ.out HNN.out HP.out HY.out HKK.out HTT.out HR.out
            clear hp hf hy hq hr hcne hwp hpm hn0 hn1 hoL hsinW HNN HFF HZ HP HY HKK HTT
            go_wp2_with (go_at_call 36; refine (refRol_eq T kk hT0 hT1 hk0 hk1 _ R HR).mono ?_; rintro e w2 ⟨rfl, hw2⟩; rw [hw2]; clear hw2 w2)
            go_roundw
            case rel => exact ⟨i + 1, xd, (xb + R) % 4294967296, xb, xc, by omega, by go_num, rfl, rfl, rfl, rfl, by omega, by omega, by omega, by omega, by omega, by omega, by omega, by omega, HNX, below_drewN HDW.out _⟩
            case measure => simp [intOf]; omega
          · obtain ⟨f, hf, hf0, hf1, HFF⟩ := f_four xb xc xd _ xa HOK.out HJ.out i (by omega)
            obtain ⟨y, hy⟩ : ∃ y : Nat, (7 * (i : Int)) % 16 = (y : Int) := ⟨(7 * i) % 16, by omega⟩
            have hy16 : y < 16 := by omega
            have HY : Hid (y = md5G i) := by
              show _ = _
              unfold md5G
              rw [if_neg (by omega), if_neg (by omega), if_neg (by omega)]
              omega
            have hq : (i : Int) / 16 = 3 := by omega
            obtain ⟨r, hr⟩ : ∃ r : Nat, (i : Int) % 4 = (r : Int) := ⟨i % 4, by omega⟩
            have hr4 : r < 4 := by omega
            obtain ⟨kk, hkk, hk0, hk1, HKK⟩ := tab3 i r hr4 hqn (by omega)
            go_wp2_with (go_at_call 34; refine (refNot _ (by omega) (by omega) _).mono ?_; rintro e w2 ⟨rfl, hw2⟩; rw [hw2]; clear hw2 w2)
            generalize hW : World.alloc (World.alloc (World.alloc (World.alloc (World.alloc _ _) _) _) _) _ = W
            have hBW : Below wr.heap.size wr W := by
              rw [← hW]
              exact (((((Below.refl _ _).alloc (Nat.le_refl _) _).alloc (by simp) _).alloc (by simp; omega) _).alloc (by simp; omega) _).alloc (by simp; omega) _
            have HCW : Hid (Cells W g L) := HC2.out.below hBW (Nat.lt_of_lt_of_le hgl HD.out.size)
            have HDW : Hid (Below w1.heap.size w1 W) := HD.out.trans (hBW.mono HD.out.size)
            have hsinW : W.cell? ⟨2, i, none⟩ = some (.int .u32 z) := by
              rw [← hsin]
              simp only [World.cell?, hBW.block _ (Nat.lt_of_lt_of_le HS1.out.2 HD.out.size)]
            clear hW hBW hsin HC2 HD
            obtain ⟨p, hp⟩ : ∃ p : Nat, 4 * (y : Int) = (p : Int) := ⟨4 * y, by omega⟩
            have hp1 : p ≤ 60 := by omega
            have HP : Hid (p = 4 * y) := by show _ = _; omega
            obtain ⟨nn, hnn⟩ : ∃ nn : Int, ((wordAt true L (o + p) : Nat) : Int) = nn := ⟨_, rfl⟩
            have HNN : Hid (nn = ((wordAt true L (o + p) : Nat) : Int)) := hnn.symm
            have hn0 : 0 ≤ nn := by omega
            have hn1 : nn < 4294967296 := by have := wordAt_lt true L (o + p); omega
            clear hnn
            have hoL : o + p + 4 ≤ L.length := by have := HO.out (by omega); omega
            have hcne : ¬ (c = p) := by omega
            have hwp : IntKind.i64.wrap (p : Int) = p := wrap64 p (by omega)
            have hpm : p ≤ m := by omega
            go_quiet ((go_at_call 32; exact Calls.quiet_of_same (refNumber_eq true L g (o + p) _ _ (by omega) hoL (by omega) _ (HCW.out.drewN _) nn HNN)))
            obtain ⟨T, hT⟩ : ∃ T : Int, (f + xa + z + nn) % 4294967296 = T := ⟨_, rfl⟩
            have hT0 : 0 ≤ T := by omega
            have hT1 : T < 4294967296 := by omega
            have HTT : Hid ((f + xa + z + nn) % 4294967296 = T) := hT
            rw [hT]
            clear hT
            obtain ⟨R, hR0, hR1, HR⟩ := rol_bounds T kk hT0 hT1 hk0 hk1
            have HNX : Hid (Is4 xd ((xb + R) % 4294967296) xb xc (md5Rounds L o (md5Blocks L k) (i + 1))) :=
              md5_next L o i xa xb xc xd f z nn kk T R p y _ HJ.out HFF.out HZ.out HNN.out HP.out HY.out HKK.out HTT.out HR.out
            clear hp hf hy hq hr hcne hwp hpm hn0 hn1 hoL hsinW HNN HFF HZ HP HY HKK HTT
            go_wp2_with (go_at_call 36; refine (refRol_eq T kk hT0 hT1 hk0 hk1 _ R HR).mono ?_; rintro e w2 ⟨rfl, hw2⟩; rw [hw2]; clear hw2 w2)
            go_roundw
            case rel => exact ⟨i + 1, xd, (xb + R) % 4294967296, xb, xc, by omega, by go_num, rfl, rfl, rfl, rfl, by omega, by omega, by omega, by omega, by omega, by omega, by omega, by omega, HNX, below_drewN HDW.out _⟩
            case measure => simp [intOf]; omega
        · obtain rfl : i = 64 := by omega
          have hrel2 : ∀ (o' : Nat), (0 < gk → o' = o + 64) → Hid (0 < gk → o' = 64 * (k + 1)) := by
            intro o' h
            show 0 < gk → _
            intro h2
            have h3 := HO.out (by omega)
            have h4 := h h2
            omega
          have HE : Hid (Is4 ((ya + xa) % 4294967296) ((yb + xb) % 4294967296) ((yc + xc) % 4294967296) ((yd + xd) % 4294967296) (md5Blocks L (k + 1))) := by
            obtain ⟨q1, q2, q3, q4⟩ := HI.out
            obtain ⟨r1, r2, r3, r4⟩ := HJ.out
            have h3 := HO.out (by omega)
            rw [md5Blocks, ← h3]
            refine ⟨?_, ?_, ?_, ?_⟩
            · rw [q1, r1, md5Add]; simp
            · rw [q2, r2, md5Add]; simp
            · rw [q3, r3, md5Add]; simp
            · rw [q4, r4, md5Add]; simp
          by_cases hc : c = 64
          · subst hc
            go_wp2
            go_roundg gk
            case measure => omega
            case rel => exact ⟨k + 1, _, _, _, _, _, _, _, by omega, hrel2 _ (by have := HM.out; omega), by show _ = _; have := HM.out; omega, by omega, rfl, rfl, rfl, rfl, rfl, by omega, by omega, by omega, by omega, by omega, by omega, by omega, by omega, HE, HD⟩
          · have hc2 : 64 < c := by omega
            go_wp2
            go_roundg gk
            case measure => omega
            case rel => exact ⟨k + 1, _, _, _, _, _, _, _, by omega, hrel2 _ (fun _ => rfl), by show _ = _; have := HM.out; omega, by omega, rfl, rfl, rfl, rfl, rfl, by omega, by omega, by omega, by omega, by omega, by omega, by omega, by omega, HE, HD⟩
end Go.Proofs.YtooaiamfbmjmnaaFmt
