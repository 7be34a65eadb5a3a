/- The document's own SHA-256 is the sum over lists of bytes. -/
import Derived.Test.YtooaiamfbmjmnaaFmtRefPad
import Derived.Test.YtooaiamfbmjmnaaFmtB32
import Derived.Test.YtooaiamfbmjmnaaFmtIRow
import Derived.Test.YtooaiamfbmjmnaaFmtSha
namespace Go.Proofs.YtooaiamfbmjmnaaFmt
open Go.RowKit
open Go.Extern.Stop Go.Stop Go.Extern

theorem begin_at (k : Nat) (h : k < 8) (w : World) : (Instr.index 48 (.agg #[Value.int .u32 1779033703, Value.int .u32 3144134277, Value.int .u32 1013904242, Value.int .u32 2773480762, Value.int .u32 1359893119, Value.int .u32 2600822924, Value.int .u32 528734635, Value.int .u32 1541459225]) (.int .i64 (k : Int))).run Tryf.prog w = .ok (.int .u32 ((beginL.getD k 0 : Nat) : Int)) w := by
  obtain rfl | rfl | rfl | rfl | rfl | rfl | rfl | rfl : k = 0 ∨ k = 1 ∨ k = 2 ∨ k = 3 ∨ k = 4 ∨ k = 5 ∨ k = 6 ∨ k = 7 := by omega
  all_goals kernel_rfl

theorem refRor_eq (n k : Int) (h0 : 0 ≤ n) (h1 : n < 4294967296) (hk0 : 1 ≤ k) (hk : k ≤ 32) (w : World) (r : Int) (HR : Hid (r = rorN n.toNat k.toNat)) :
    Calls Tryf.prog 33 #[.int .i64 n, .int .i64 k] w fun e w' => e = .returned (.int .i64 r) ∧ w' = w := by
  refine (refRor n k h0 h1 hk0 hk w).mono ?_
  rintro e w' ⟨r', rfl, _, _, HR', rfl⟩
  rw [HR.out, HR'.out]
  exact ⟨rfl, rfl⟩
theorem sig_small (x r1 r2 : Int) (k1 k2 d : Nat) (h0 : 0 ≤ x) (h1 : x < 4294967296) (H1 : r1 = rorN x.toNat k1) (H2 : r2 = rorN x.toNat k2) (D : Int) (hD : D = d) : ∃ z : Int, bits .xor .i64 (bits .xor .i64 r1 r2) (x / D) = z ∧ 0 ≤ z ∧ z < 4294967296 ∧ Hid (z = ((rorN x.toNat k1 ^^^ rorN x.toNat k2 ^^^ x.toNat / d : Nat) : Int)) := by
  obtain ⟨n, rfl⟩ : ∃ n : Nat, x = n := ⟨x.toNat, by omega⟩
  subst hD H1 H2
  simp only [Int.toNat_natCast]
  have a1 := rorN_lt n k1 (by omega)
  have a2 := rorN_lt n k2 (by omega)
  have a3 : n / d < 4294967296 := Nat.lt_of_le_of_lt (Nat.div_le_self _ _) (by omega)
  refine ⟨_, rfl, ?_⟩
  rw [← Int.natCast_ediv, xor64 _ _ a1 a2, xor64 _ _ (xor32_lt a1 a2) a3]
  have := xor32_lt (xor32_lt a1 a2) a3
  exact ⟨by omega, by omega, rfl⟩

theorem wrapId (n : Int) (h0 : 0 ≤ n) (h1 : n < 9223372036854775808) : IntKind.i64.wrap n = n := by
  simp [IntKind.wrap, IntKind.bits, IntKind.signed]
  omega
theorem new_val (x16 x7 sa sb A B : Int) (a0 : 0 ≤ x16) (a1 : x16 < 4294967296) (b0 : 0 ≤ x7) (b1 : x7 < 4294967296) (c0 : 0 ≤ sa) (c1 : sa < 4294967296) (d0 : 0 ≤ sb) (d1 : sb < 4294967296) (hA : A = sa) (hB : B = sb) (N : Nat) (hN : (x16 + x7 + sa + sb) % 4294967296 = (N : Int)) :
    (IntKind.i64.wrap (IntKind.i64.wrap (IntKind.i64.wrap (x16 + x7) + A) + B)).tmod 4294967296 = (N : Int) := by
  subst hA hB
  rw [wrapId (x16 + x7) (by omega) (by omega), wrapId (x16 + x7 + A) (by omega) (by omega), wrapId (x16 + x7 + A + B) (by omega) (by omega), Int.tmod_eq_emod_of_nonneg (by omega)]
  exact hN
theorem sig_div (x r1 r2 z D : Int) (h0 : 0 ≤ x) (h1 : x < 4294967296) (hD : 0 < D) (h : bits .xor .i64 (bits .xor .i64 r1 r2) (x / D) = z) : bits .xor .i64 (bits .xor .i64 r1 r2) (IntKind.i64.wrap (x.tdiv D)) = z := by
  have h2 : x / D ≤ x := Int.ediv_le_self _ h0
  have h3 : 0 ≤ x / D := Int.ediv_nonneg h0 (by omega)
  rw [Int.tdiv_eq_ediv_of_nonneg h0, wrapId _ h3 (by omega)]
  exact h

theorem mixL_self (V X : List Nat) (h : X.length = 8) : mixL V X 0 = X := by
  obtain ⟨a, b, c, d, e, f, g, i, rfl⟩ := eightN h
  simp [mixL, List.range_succ]
theorem shaAdd_comm (u v : List Nat) : shaAdd u v = shaAdd v u := by
  unfold shaAdd
  apply List.map_congr_left
  intro j _
  rw [Nat.add_comm]
theorem refRor_def (n k : Int) (h0 : 0 ≤ n) (h1 : n < 4294967296) (hk0 : 1 ≤ k) (hk : k ≤ 32) (w : World) :
    Calls Tryf.prog 33 #[.int .i64 n, .int .i64 k] w fun e w' => e = .returned (.int .i64 (rorI n k)) ∧ w' = w :=
  refRor_eq n k h0 h1 hk0 hk w _ rfl
theorem sig3I (n k1 k2 k3 : Nat) (j1 j2 j3 : Int) (e1 : j1 = k1) (e2 : j2 = k2) (e3 : j3 = k3) (h1 : n < 4294967296) : ∃ z : Nat, bits .xor .i64 (bits .xor .i64 (rorI n j1) (rorI n j2)) (rorI n j3) = (z : Int) ∧ Hid (z = (rorN n k1 ^^^ rorN n k2 ^^^ rorN n k3) ∧ z < 4294967296) := by
  subst e1 e2 e3
  have a1 := rorN_lt n k1 h1
  have a2 := rorN_lt n k2 h1
  have a3 := rorN_lt n k3 h1
  have := xor32_lt (xor32_lt a1 a2) a3
  refine ⟨_, ?_, rfl, this⟩
  simp only [rorI, Int.toNat_natCast]
  rw [xor64 _ _ a1 a2, xor64 _ _ (xor32_lt a1 a2) a3]
theorem chI (n m k : Nat) (h1 : n < 4294967296) (h2 : m < 4294967296) (h3 : k < 4294967296) : ∃ z : Nat, bits .xor .i64 (bits .and .i64 (n : Int) (m : Int)) (bits .and .i64 (4294967295 - (n : Int)) (k : Int)) = (z : Int) ∧ Hid (z = ((n &&& m) ^^^ (notN n &&& k)) ∧ z < 4294967296) := by
  have a1 : n &&& m < 4294967296 := and32_lt h2
  have a2 : notN n &&& k < 4294967296 := and32_lt h3
  refine ⟨_, ?_, rfl, xor32_lt a1 a2⟩
  rw [notCast _ h1, and64 _ _ h1 h2, and64 _ _ (notN_lt _) h3, xor64 _ _ a1 a2]
theorem majI (n m k : Nat) (h1 : n < 4294967296) (h2 : m < 4294967296) (h3 : k < 4294967296) : ∃ z : Nat, bits .xor .i64 (bits .xor .i64 (bits .and .i64 (n : Int) (m : Int)) (bits .and .i64 (n : Int) (k : Int))) (bits .and .i64 (m : Int) (k : Int)) = (z : Int) ∧ Hid (z = ((n &&& m) ^^^ (n &&& k) ^^^ (m &&& k)) ∧ z < 4294967296) := by
  have a1 : n &&& m < 4294967296 := and32_lt h2
  have a2 : n &&& k < 4294967296 := and32_lt h3
  have a3 : m &&& k < 4294967296 := and32_lt h3
  refine ⟨_, ?_, rfl, xor32_lt (xor32_lt a1 a2) a3⟩
  rw [and64 _ _ h1 h2, and64 _ _ h1 h3, and64 _ _ h2 h3, xor64 _ _ a1 a2, xor64 _ _ (xor32_lt a1 a2) a3]
set_option maxHeartbeats 8000000 in
set_option maxRecDepth 100000 in
theorem refSha (F : Interp) (s : ByteArray) (hs : s.size ≤ 1000) (w : World) (hF : F.told.answers w.tape) (HB0 : Hid (Begin w)) (HR0 : Hid (Roots w)) :
    Calls Tryf.prog 16 #[.string s] w fun e w' => e = .returned (.string (bs (hexL (shaL s.data.toList)))) ∧ Below w.heap.size w w' := by
  have b0 := HB0.out.1 0 (by omega)
  have b1 := HB0.out.1 1 (by omega)
  have b2 := HB0.out.1 2 (by omega)
  have b3 := HB0.out.1 3 (by omega)
  have b4 := HB0.out.1 4 (by omega)
  have b5 := HB0.out.1 5 (by omega)
  have b6 := HB0.out.1 6 (by omega)
  have b7 := HB0.out.1 7 (by omega)
  simp only [beginL, List.getD_cons_zero, List.getD_cons_succ] at b0 b1 b2 b3 b4 b5 b6 b7
  go_enter Tryf.func16, Tryf.ntmps16
  go_wp2
  clear b0 b1 b2 b3 b4 b5 b6 b7 HB0
  go_loopw [3, 20] (fun v i wr => ∃ (k : Nat), k ≤ 8 ∧ i = .int .i64 k ∧ Hid (IRow wr w.heap.size v k (beginL.take k)) ∧ Below w.heap.size w wr) (fun _ i _ => 8 - (intOf i).toNat)
  case atStart => exact ⟨0, by omega, rfl, IRow.nil _ _, Below.refl _ _⟩
  case round =>
    obtain ⟨k, hk, rfl, HI, hb⟩ := hrel
    have hwr := hb.size
    by_cases hlt : k < 8
    · obtain ⟨X, hx⟩ : ∃ X : Int, ((beginL.getD k 0 : Nat) : Int) = X := ⟨_, rfl⟩
      have HXX : Hid (X = ((beginL.getD k 0 : Nat) : Int)) := hx.symm
      have hx0 : 0 ≤ X := by omega
      have hx1 : X < 4294967296 := by have := begin_lt k hlt; omega
      have hat := begin_at k hlt wr
      rw [hx] at hat
      have HT : Hid (beginL.take (k + 1) = beginL.take k ++ [beginL.getD k 0]) := by
        show _ = _
        rw [List.take_succ_eq_append_getElem (by simpa [beginL] using hlt)]
        simp [List.getD_eq_getElem?_getD, show k < beginL.length by simpa [beginL] using hlt]
      clear hx
      go_wp2_with (at_builtin; refine wpList_append_I _ rfl _ _ rfl w.heap.size _ k (beginL.take k) rfl (HI.out.alloc _) ⟨_, 0, none⟩ 1 1 [beginL.getD k 0] rfl rfl (cell_oneI wr _ X HXX.out) (by omega) (by omega) (by simp; omega) ?_; intro g1 cap1 w1 hM1 hg1 hat1 hlt1)
      go_roundw
      case rel =>
        refine ⟨k + 1, by omega, by go_num, ?_, (hb.alloc hwr _).grown hg1 (by simp; omega) (fun q hq => HI.out.ge q hq)⟩
        rw [HT.out]
        exact hM1
      case measure => simp [intOf]; omega
    · obtain rfl : k = 8 := by omega
      obtain ⟨gh, ch, rfl, hgh0, hgh1⟩ := HI.out.form (by omega)
      have HH : Hid (IRow wr w.heap.size (.slice (some ⟨gh, 0, none⟩) 8 ch) 8 beginL) := HI
      clear HI
      have HB1 : Hid (Below w.heap.size w wr) := hb
      clear hb
      go_wp2_with (go_at_call 31; refine (refPad false s hs _).mono ?_; rintro e w1 ⟨g, n, cap, rfl, hn, hnc, hgw, hgl, HC, hb1⟩; have HN : Hid (n = (s.size + 72) / 64 * 64) := hn; clear hn)
      obtain ⟨K, hK⟩ : ∃ K, (s.size + 72) / 64 = K := ⟨_, rfl⟩
      have hK2 : K ≤ 20 := by omega
      have HN2 : Hid (n = 64 * K) := by show _ = _; have := HN.out; omega
      obtain ⟨L, hL⟩ : ∃ L, padL false s.data.toList = L := ⟨_, rfl⟩
      have hLl : L.length = 64 * K := by rw [← hL, padL_length]; simp; omega
      rw [hL] at HC
      have HG : Hid (shaL s.data.toList = (shaBlocks L K).flatMap be4) := by
        show _ = _
        rw [shaL, hL, ← hK]
        simp
      have HB2 : Hid (Below w.heap.size w w1) := HB1.out.trans (hb1.mono HB1.out.size)
      have HH2 : Hid (IRow w1 w.heap.size (.slice (some ⟨gh, 0, none⟩) 8 ch) 8 beginL) := HH.out.below hb1 (fun q hq => by simp only [Value.ownBlock, Option.some.injEq] at hq; omega)
      have hgne : gh ≠ g := by omega
      have hghl : gh < w1.heap.size := Nat.lt_of_lt_of_le hgh1 hb1.size
      clear hL hK HN HH HB1 hb1 hgh1 hgw
      go_loopg [6] K (fun gk vs wx => ∃ (k o m c : Nat), k + gk = K ∧ Hid (0 < gk → o = 64 * k) ∧ Hid (m = 64 * gk) ∧ m ≤ c ∧ vs = .slice (some ⟨g, o, none⟩) m c ∧ Hid (IRow wx w.heap.size (.slice (some ⟨gh, 0, none⟩) 8 ch) 8 (shaBlocks L k)) ∧ Hid (Cells wx g L) ∧ Hid (Below w.heap.size w wx) ∧ gh < wx.heap.size ∧ g < wx.heap.size)
      case atStart => exact ⟨0, 0, n, cap, by omega, fun _ => rfl, HN2, hnc, rfl, HH2, HC, HB2, hghl, hgl⟩
      case round =>
        obtain ⟨k, o, m, c, hk, HO, HM, hmc, rfl, HH, HCX, HB, hghx, hgx⟩ := hrel
        clear HN2 HC HB2 HH2 hghl hgl
        cases gk with
        | zero =>
          as_aux_lemma =>
            obtain rfl : m = 0 := HM.out
            obtain rfl : k = K := by omega
            go_wp2
            go_loopw [16, 219] (fun v i wx => ∃ (j : Nat) (t : ByteArray), j ≤ 8 ∧ i = .int .i64 j ∧ v = .string t ∧ t.size = 8 * j ∧ Hid (t = bs (hexL (((shaBlocks L k).take j).flatMap be4))) ∧ Hid (Below wr.heap.size wr wx)) (fun _ i _ => 8 - (intOf i).toNat)
            case atStart => exact ⟨0, _, by omega, rfl, rfl, rfl, rfl, Below.refl _ _⟩
            case round =>
              obtain ⟨j, t, hj, rfl, rfl, htz, HT, HBX⟩ := hrel
              by_cases hlt : j < 8
              · obtain ⟨X, hX⟩ : ∃ X : Int, (((shaBlocks L k).getD j 0 : Nat) : Int) = X := ⟨_, rfl⟩
                have HX : Hid (X = (((shaBlocks L k).getD j 0 : Nat) : Int)) := hX.symm
                have hx0 : 0 ≤ X := by omega
                have hx1 : X < 4294967296 := by have := shaBlocks_lt L k j hlt; omega
                have hcell := (HH.out.below HBX.out (fun q hq => by simp only [Value.ownBlock, Option.some.injEq] at hq; omega)).cell j hlt
                rw [hX] at hcell
                clear hX
                go_wp2_with (go_at_call 35; refine (refDigits F false X hx0 hx1 _ (by rw [HBX.out.tape, HB.out.tape]; exact hF)).mono ?_; rintro e w2 ⟨u, rfl, hu, HU, hb2⟩)
                go_roundw
                case rel =>
                  refine ⟨j + 1, t ++ u, by omega, by go_num, rfl, by simp [htz, hu]; omega, ?_, HBX.out.trans (hb2.mono HBX.out.size)⟩
                  show _ = _
                  have e : (shaBlocks L k).take (j + 1) = (shaBlocks L k).take j ++ [(shaBlocks L k).getD j 0] := by
                    have hl : j < (shaBlocks L k).length := by rw [shaBlocks_length]; exact hlt
                    rw [List.take_succ_eq_append_getElem hl]
                    simp [List.getD_eq_getElem?_getD, hl]
                  rw [e, List.flatMap_append, hexL_append, bs_append, HT.out, HU.out, HX.out]
                  simp
                case measure => simp [intOf]; omega
              · obtain rfl : j = 8 := by omega
                go_wp2
                go_ret
                refine ⟨ret_str ?_, HB.out.trans (HBX.out.mono HB.out.size)⟩
                rw [HT.out, HG.out, List.take_of_length_le (by rw [shaBlocks_length]; omega)]
        | succ gk =>
          have hm2 : 64 ≤ m := by have := HM.out; omega
          have hm3 : m ≤ 1280 := by have := HM.out; omega
          obtain ⟨W0, hW0⟩ : ∃ W0 : World, W0 = wr := ⟨_, rfl⟩
          subst hW0
          go_wp2
          have hdm : decide (0 < m) = true := by simp; omega
          rw [hdm]
          clear hdm
          go_loopw [7, 36] (fun v i wx => ∃ (i' : Nat), i' ≤ 64 ∧ i = .int .i64 i' ∧ Hid (IRow wx W0.heap.size v i' (shaW L o i')) ∧ Hid (Below W0.heap.size W0 wx)) (fun _ i _ => 64 - (intOf i).toNat)
          case atStart => exact ⟨0, by omega, rfl, IRow.nil _ _, Below.refl _ _⟩
          case round =>
            obtain ⟨i, hi, rfl, HI, HBX⟩ := hrel
            have hwr := HBX.out.size
            by_cases hlt : i < 64
            · by_cases h16 : i < 16
              · obtain ⟨p, hp⟩ : ∃ p : Nat, 4 * (i : Int) = (p : Int) := ⟨4 * i, by omega⟩
                have hp1 : p ≤ 60 := by omega
                have HP : Hid (p = 4 * i) := by show _ = _; omega
                have hcne : ¬ (c = p) := by omega
                have hpm : p ≤ m := by omega
                have hoL : o + p + 4 ≤ L.length := by have := HO.out (by omega); omega
                have HCW : Hid (Cells wr g L) := HCX.out.block (HBX.out.block _ hgx)
                go_wp2_with (first
                  | (go_at_call 32; refine (refNumber false L g (o + p) _ _ (by omega) hoL (by omega) _ HCW).mono ?_; rintro e w2 ⟨r, rfl, hr0, hr1, HR, hw2⟩; rw [hw2]; clear hw2 w2)
                  | (at_builtin; refine wpList_append_I _ rfl _ _ rfl W0.heap.size _ i (shaW L o i) rfl (HI.out.alloc _) ⟨_, 0, none⟩ 1 1 [wordAt false L (o + p)] rfl rfl (cell_oneI wr _ r HR.out) (by omega) (by omega) (by simp; omega) ?_; intro g1 cap1 w1 hM1 hg1 hat1 hlt1))
                go_roundw
                case rel =>
                  refine ⟨i + 1, by omega, by go_num, ?_, (HBX.out.alloc hwr _).grown hg1 (by simp; omega) (fun q hq => HI.out.ge q hq)⟩
                  show IRow _ _ _ _ _
                  rw [shaW_succ, shaNew, if_pos h16, ← HP.out]
                  exact hM1
                case measure => simp [intOf]; omega
              · as_aux_lemma =>
                  obtain ⟨gw, cw, rfl, hgw0, hgw1⟩ := HI.out.form (by omega)
                  obtain ⟨p15, e15⟩ : ∃ p : Nat, (i : Int) - 15 = (p : Int) := ⟨i - 15, by omega⟩
                  obtain ⟨p2, e2⟩ : ∃ p : Nat, (i : Int) - 2 = (p : Int) := ⟨i - 2, by omega⟩
                  obtain ⟨p16, e16⟩ : ∃ p : Nat, (i : Int) - 16 = (p : Int) := ⟨i - 16, by omega⟩
                  obtain ⟨p7, e7⟩ : ∃ p : Nat, (i : Int) - 7 = (p : Int) := ⟨i - 7, by omega⟩
                  have l15 : p15 < i := by omega
                  have l2 : p2 < i := by omega
                  have l16 : p16 < i := by omega
                  have l7 : p7 < i := by omega
                  have w15 : IntKind.i64.wrap (p15 : Int) = p15 := wrap64 _ (by omega)
                  have w2 : IntKind.i64.wrap (p2 : Int) = p2 := wrap64 _ (by omega)
                  have w16 : IntKind.i64.wrap (p16 : Int) = p16 := wrap64 _ (by omega)
                  have w7 : IntKind.i64.wrap (p7 : Int) = p7 := wrap64 _ (by omega)
                  have HPS : Hid (p15 = i - 15 ∧ p2 = i - 2 ∧ p16 = i - 16 ∧ p7 = i - 7) := by show _ ∧ _; omega
                  obtain ⟨x15, hx15⟩ : ∃ x : Int, (((shaW L o i).getD p15 0 : Nat) : Int) = x := ⟨_, rfl⟩
                  obtain ⟨x2, hx2⟩ : ∃ x : Int, (((shaW L o i).getD p2 0 : Nat) : Int) = x := ⟨_, rfl⟩
                  obtain ⟨x16, hx16⟩ : ∃ x : Int, (((shaW L o i).getD p16 0 : Nat) : Int) = x := ⟨_, rfl⟩
                  obtain ⟨x7, hx7⟩ : ∃ x : Int, (((shaW L o i).getD p7 0 : Nat) : Int) = x := ⟨_, rfl⟩
                  have q15 := shaW_lt L o i p15
                  have q2 := shaW_lt L o i p2
                  have q16 := shaW_lt L o i p16
                  have q7 := shaW_lt L o i p7
                  have k15 := HI.out.cell p15 l15
                  have k2 := HI.out.cell p2 l2
                  have k16 := HI.out.cell p16 l16
                  have k7 := HI.out.cell p7 l7
                  rw [hx15] at k15
                  rw [hx2] at k2
                  rw [hx16] at k16
                  rw [hx7] at k7
                  have y15 : 0 ≤ x15 ∧ x15 < 4294967296 := by omega
                  have y2 : 0 ≤ x2 ∧ x2 < 4294967296 := by omega
                  have y16 : 0 ≤ x16 ∧ x16 < 4294967296 := by omega
                  have y7 : 0 ≤ x7 ∧ x7 < 4294967296 := by omega
                  obtain ⟨u15, v15⟩ := y15
                  obtain ⟨u2, v2⟩ := y2
                  obtain ⟨u16, v16⟩ := y16
                  obtain ⟨u7, v7⟩ := y7
                  have HXS : Hid (x15 = (((shaW L o i).getD p15 0 : Nat) : Int) ∧ x2 = (((shaW L o i).getD p2 0 : Nat) : Int) ∧ x16 = (((shaW L o i).getD p16 0 : Nat) : Int) ∧ x7 = (((shaW L o i).getD p7 0 : Nat) : Int)) := ⟨hx15.symm, hx2.symm, hx16.symm, hx7.symm⟩
                  clear hx15 hx2 hx16 hx7 q15 q2 q16 q7
                  obtain ⟨ra, ra0, ra1, HRA⟩ := ror_bounds x15 7 u15 v15
                  obtain ⟨rb, rb0, rb1, HRB⟩ := ror_bounds x15 18 u15 v15
                  obtain ⟨rc, rc0, rc1, HRC⟩ := ror_bounds x2 17 u2 v2
                  obtain ⟨rd, rd0, rd1, HRD⟩ := ror_bounds x2 19 u2 v2
                  obtain ⟨sa, hsa, sa0, sa1, HSA⟩ := sig_small x15 ra rb 7 18 8 u15 v15 HRA.out HRB.out 8 rfl
                  obtain ⟨sb, hsb, sb0, sb1, HSB⟩ := sig_small x2 rc rd 17 19 1024 u2 v2 HRC.out HRD.out 1024 rfl
                  have HNW : Hid ((x16 + x7 + sa + sb) % 4294967296 = ((shaNew L o i : Nat) : Int)) := by
                    show _ = _
                    obtain ⟨z1, z2, z3, z4⟩ := HPS.out
                    obtain ⟨z5, z6, z7, z8⟩ := HXS.out
                    rw [shaNew, if_neg h16, ← z1, ← z2, ← z3, ← z4, HSA.out, HSB.out]
                    have t15 : x15.toNat = (shaW L o i).getD p15 0 := by omega
                    have t2 : x2.toNat = (shaW L o i).getD p2 0 := by omega
                    rw [t15, t2, z7, z8]
                    omega
                  have HVAL : Hid ((IntKind.i64.wrap (IntKind.i64.wrap (IntKind.i64.wrap (x16 + x7) + bits .xor .i64 (bits .xor .i64 ra rb) (IntKind.i64.wrap (x15.tdiv 8))) + bits .xor .i64 (bits .xor .i64 rc rd) (IntKind.i64.wrap (x2.tdiv 1024)))).tmod 4294967296 = ((shaNew L o i : Nat) : Int)) :=
                    new_val x16 x7 sa sb _ _ u16 v16 u7 v7 sa0 sa1 sb0 sb1 (sig_div x15 ra rb sa 8 u15 v15 (by omega) hsa) (sig_div x2 rc rd sb 1024 u2 v2 (by omega) hsb) _ HNW.out
                  clear HPS HXS HSA HSB HNW
                  go_wp2
                  go_quiet (fail)
                  go_wp2
                  generalize hW1 : wr.drewN nq = W1
                  have hbW : Below wr.heap.size wr W1 := by rw [← hW1]; exact below_drewN (Below.refl _ _) _
                  have HI1 : Hid (IRow W1 W0.heap.size (.slice (some ⟨gw, 0, none⟩) i cw) i (shaW L o i)) := HI.out.below hbW (fun q hq => by simp only [Value.ownBlock, Option.some.injEq] at hq; omega)
                  have HB1 : Hid (Below W0.heap.size W0 W1) := HBX.out.trans (hbW.mono hwr)
                  have z16 : W1.cell? ⟨gw, p16, none⟩ = some (.int .i64 x16) := by rw [← k16]; simp only [World.cell?, hbW.block gw hgw1]
                  have z7 : W1.cell? ⟨gw, p7, none⟩ = some (.int .i64 x7) := by rw [← k7]; simp only [World.cell?, hbW.block gw hgw1]
                  have hgw2 : gw < W1.heap.size := Nat.lt_of_lt_of_le hgw1 hbW.size
                  have hwW : W0.heap.size ≤ W1.heap.size := HB1.out.size
                  clear hW1 hbW HI HBX k16 k7 k15 k2 hgw1 hwr e15 e2 w15 w2 l15 l2
                  clear HH HCX HB HG HR0 HO HM
                  clear hgne hghx hgx hmc hm2 hm3 hnc hF
                  go_region_held3 (fun w' => w'.cell? ⟨gw, p16, none⟩ = some (.int .i64 x16) ∧ w'.cell? ⟨gw, p7, none⟩ = some (.int .i64 x7)) (go_keep)
                    ((first
                      | (go_at_call 33; refine (refRor_eq x15 7 u15 v15 (by omega) (by omega) _ ra HRA).mono ?_; rintro e w2 ⟨rfl, rfl⟩)
                      | (go_at_call 33; refine (refRor_eq x15 18 u15 v15 (by omega) (by omega) _ rb HRB).mono ?_; rintro e w2 ⟨rfl, rfl⟩)
                      | (go_at_call 33; refine (refRor_eq x2 17 u2 v2 (by omega) (by omega) _ rc HRC).mono ?_; rintro e w2 ⟨rfl, rfl⟩)
                      | (go_at_call 33; refine (refRor_eq x2 19 u2 v2 (by omega) (by omega) _ rd HRD).mono ?_; rintro e w2 ⟨rfl, rfl⟩)
                      | (refine step_append_I _ (by rfl) _ _ (by rfl) W0.heap.size gw i cw (shaW L o i) (by rfl)
                          (HI1.out.below (H := W1.heap.size) (((Below.refl _ _).alloc (Nat.le_refl _) _).drew) (fun q hq => by simp only [Value.ownBlock, Option.some.injEq] at hq; omega))
                          ⟨_, 0, none⟩ 1 1 [shaNew L o i] (by rfl) (by rfl) (fun j u hj => cell_oneI W1 _ _ HVAL.out j u hj) (by omega) (by simp; omega) ?_; intro g3 cap3 w3 hM3 hg3 hlt3 hsame3)))
                  have hB3 : Below W0.heap.size W0 w3 := by
                    refine Below.grown ?_ hg3 ?_ ?_
                    · exact (HB1.out.alloc hwW _).drew
                    · simp; omega
                    · intro q hq
                      simp only [Option.some.injEq] at hq
                      omega
                  go_wp2
                  go_roundw
                  case rel =>
                    refine ⟨i + 1, by omega, by go_num, ?_, hB3⟩
                    show IRow _ _ _ _ _
                    rw [shaW_succ]
                    exact hM3
                  case measure => simp [intOf]; omega
            · obtain rfl : i = 64 := by omega
              obtain ⟨gw, cw, rfl, hgw0, hgw1⟩ := HI.out.form (by omega)
              have hX8 := shaBlocks_length L k
              have hXl : ∀ j, (shaBlocks L k).getD j 0 < 4294967296 := fun j => by
                by_cases hj : j < 8
                · exact shaBlocks_lt L k j hj
                · rw [List.getD_eq_getElem?_getD, List.getElem?_eq_none (by omega)]
                  decide
              have hWl := shaW_lt L o 64
              have HX1 : Hid (shaBlocks L (k + 1) = shaAdd (shaBlocks L k) (shaRounds (shaW L o 64) (shaBlocks L k) 64)) := by
                show _ = _
                rw [shaBlocks, HO.out (by omega)]
              obtain ⟨X, hX⟩ : ∃ X, shaBlocks L k = X := ⟨_, rfl⟩
              obtain ⟨WL, hWL⟩ : ∃ WL, shaW L o 64 = WL := ⟨_, rfl⟩
              rw [hX] at HH hX8 hXl HX1
              rw [hWL] at HI hWl HX1
              clear hX hWL
              have HHr : Hid (IRow wr w.heap.size (.slice (some ⟨gh, 0, none⟩) 8 ch) 8 X) := HH.out.below HBX.out (fun q hq => by simp only [Value.ownBlock, Option.some.injEq] at hq; omega)
              have hwr := HBX.out.size
              clear HH
              go_wp2_with (at_builtin; refine wpList_append_I wr rfl _ _ rfl wr.heap.size _ 0 [] rfl (IRow.nil _ _) ⟨gh, 0, none⟩ 8 ch X rfl hX8 (HHr.out.2.cells (g := gh) rfl) (by omega) (by omega) (Nat.le_refl _) ?_; intro g3 cap3 w3 hM3 hg3 hat3 hlt3; have hg3' : wr.grownBy w3 none := hg3)
              have hB3 : Below wr.heap.size wr w3 := (Below.refl _ _).grown hg3' (Nat.le_refl _) (by simp)
              have HM3 : Hid (IRow w3 wr.heap.size (.slice (some ⟨g3, 0, none⟩) 8 cap3) 8 X) := by show IRow _ _ _ _ _; simpa using hM3
              obtain ⟨B2, hB2⟩ : ∃ B2, wr.heap.size = B2 := ⟨_, rfl⟩
              rw [hB2] at HM3 hgw1 hwr hB3
              have HI3 : Hid (IRow w3 W0.heap.size (.slice (some ⟨gw, 0, none⟩) 64 cw) 64 WL) := HI.out.below hB3 (fun q hq => by simp only [Value.ownBlock, Option.some.injEq] at hq; omega)
              have HH3 : Hid (IRow w3 w.heap.size (.slice (some ⟨gh, 0, none⟩) 8 ch) 8 X) := HHr.out.below hB3 (fun q hq => by simp only [Value.ownBlock, Option.some.injEq] at hq; omega)
              have HB3 : Hid (Below W0.heap.size W0 w3) := HBX.out.trans (hB3.mono (by omega))
              have hs3 : B2 ≤ w3.heap.size := by rw [← hB2]; exact hB3.size
              clear hM3 hg3 hg3' hat3 hB3 HI HHr HBX hB2
              have hg3B : B2 ≤ g3 := HM3.out.ge g3 rfl
              go_loopw [11, 95] (fun vv vi wx => ∃ (i gv cv : Nat), i ≤ 64 ∧ vi = .int .i64 i ∧ vv = .slice (some ⟨gv, 0, none⟩) 8 cv ∧ Hid (IRow wx B2 (.slice (some ⟨gv, 0, none⟩) 8 cv) 8 (shaRounds WL X i)) ∧ B2 ≤ gv ∧ gv < wx.heap.size ∧ Hid (Below B2 w3 wx)) (fun _ i _ => 64 - (intOf i).toNat)
              case atStart => exact ⟨0, g3, cap3, by omega, rfl, rfl, HM3, hg3B, hlt3, Below.refl _ _⟩
              case round =>
                obtain ⟨i, gv, cv, hi2, rfl, rfl, HV, hgv0, hgv1, HD⟩ := hrel
                clear HM3 hlt3 hg3B
                have hwr2 := HD.out.size
                by_cases hlt : i < 64
                · as_aux_lemma =>
                    have hv8 := HV.out.1
                    have hvl := shaRounds_lt WL X hXl i
                    obtain ⟨v, hv⟩ : ∃ v, shaRounds WL X i = v := ⟨_, rfl⟩
                    have HVV : Hid (shaRounds WL X (i + 1) = shaStep WL i v) := by show _ = _; rw [shaRounds, hv]
                    rw [hv] at HV hv8 hvl
                    clear hv
                    obtain ⟨n0, n1, n2, n3, n4, n5, n6, n7, rfl⟩ := eightN hv8
                    have k0 := HV.out.cell 0 (by omega)
                    have k1 := HV.out.cell 1 (by omega)
                    have k2 := HV.out.cell 2 (by omega)
                    have k3 := HV.out.cell 3 (by omega)
                    have k4 := HV.out.cell 4 (by omega)
                    have k5 := HV.out.cell 5 (by omega)
                    have k6 := HV.out.cell 6 (by omega)
                    have k7 := HV.out.cell 7 (by omega)
                    have l0 := hvl 0
                    have l1 := hvl 1
                    have l2 := hvl 2
                    have l3 := hvl 3
                    have l4 := hvl 4
                    have l5 := hvl 5
                    have l6 := hvl 6
                    have l7 := hvl 7
                    simp only [List.getD_cons_zero, List.getD_cons_succ] at k0 k1 k2 k3 k4 k5 k6 k7 l0 l1 l2 l3 l4 l5 l6 l7
                    obtain ⟨z, hz⟩ : ∃ z : Nat, rootsL.getD i 0 = z := ⟨_, rfl⟩
                    have hz1 : z < 4294967296 := by rw [← hz]; exact roots_lt i hlt
                    have hroot : wr.cell? ⟨1, i, none⟩ = some (.int .u32 (z : Int)) := by
                      have := HR0.out.1 i hlt
                      have hgs := HR0.out.2
                      have q1 := HB.out.size
                      rw [hz] at this
                      rw [← this]
                      simp only [World.cell?, HD.out.block _ (Nat.lt_of_lt_of_le hgs (by omega)), HB3.out.block _ (Nat.lt_of_lt_of_le hgs (by omega)), HB.out.block _ hgs]
                    obtain ⟨nn, hnn⟩ : ∃ nn : Nat, WL.getD i 0 = nn := ⟨_, rfl⟩
                    have hnn1 : nn < 4294967296 := by rw [← hnn]; exact hWl i
                    have hword : wr.cell? ⟨gw, i, none⟩ = some (.int .i64 (nn : Int)) := by
                      rw [← hnn, ← HI3.out.cell i hlt]
                      simp only [World.cell?, HD.out.block gw hgw1]
                    obtain ⟨S1, hS1, HS1⟩ := sig3I n4 6 11 25 6 11 25 rfl rfl rfl l4
                    obtain ⟨S0, hS0, HS0⟩ := sig3I n0 2 13 22 2 13 22 rfl rfl rfl l0
                    obtain ⟨CH, hCH, HCH⟩ := chI n4 n5 n6 l4 l5 l6
                    obtain ⟨MJ, hMJ, HMJ⟩ := majI n0 n1 n2 l0 l1 l2
                    have b1 : S1 < 4294967296 := HS1.out.2
                    have b2 : S0 < 4294967296 := HS0.out.2
                    have b3 : CH < 4294967296 := HCH.out.2
                    have b4 : MJ < 4294967296 := HMJ.out.2
                    clear hv8 hvl
                    go_wp2
                    go_quiet ((first
                      | (go_at_call 33; exact Calls.quiet_of_same (refRor_def _ _ (by omega) (by omega) (by omega) (by omega) _))
                      | (go_at_call 34; exact Calls.quiet_of_same (refNot _ (by omega) (by omega) _))))
                    obtain ⟨T, hT⟩ : ∃ T : Nat, shaT WL i [n0, n1, n2, n3, n4, n5, n6, n7] = T := ⟨_, rfl⟩
                    obtain ⟨U, hU⟩ : ∃ U : Nat, shaU [n0, n1, n2, n3, n4, n5, n6, n7] = U := ⟨_, rfl⟩
                    have eT : (n7 : Int) + S1 + CH + z + nn = (T : Int) := by
                      rw [← hT, shaT]
                      simp only [List.getD_cons_zero, List.getD_cons_succ]
                      rw [← HS1.out.1, ← HCH.out.1, hz, hnn]
                      omega
                    have eU : (S0 : Int) + MJ = (U : Int) := by
                      rw [← hU, shaU]
                      simp only [List.getD_cons_zero, List.getD_cons_succ]
                      rw [← HS0.out.1, ← HMJ.out.1]
                      omega
                    have HT : Hid (shaT WL i [n0, n1, n2, n3, n4, n5, n6, n7] = T) := hT
                    have HU : Hid (shaU [n0, n1, n2, n3, n4, n5, n6, n7] = U) := hU
                    have bT : T < 21474836480 := by omega
                    have bU : U < 8589934592 := by omega
                    have EU : Hid ((S0 : Int) + MJ = (U : Int)) := eU
                    rw [eT]
                    clear eT eU hT hU hz hnn HS1 HCH HS0 HMJ hS1 hCH
                    generalize hW4 : World.drewN _ _ = W4
                    have hb4 : Below wr.heap.size wr W4 := by rw [← hW4]; exact below_drewN (Below.refl _ _) _
                    have HV4 : Hid (IRow W4 B2 (.slice (some ⟨gv, 0, none⟩) 8 cv) 8 [n0, n1, n2, n3, n4, n5, n6, n7]) := HV.out.below hb4 (fun q hq => by simp only [Value.ownBlock, Option.some.injEq] at hq; omega)
                    have HD4 : Hid (Below B2 w3 W4) := HD.out.trans (hb4.mono (by omega))
                    have hgv4 : gv < W4.heap.size := Nat.lt_of_lt_of_le hgv1 hb4.size
                    have hs4 : B2 ≤ W4.heap.size := by omega
                    clear k0 k1 k2 k3 k4 k5 k6 k7 hroot hword HV HD hgv1 hwr2 hW4 hb4
                    have k0 : W4.cell? ⟨gv, 0, none⟩ = some (.int .i64 (n0 : Int)) := HV4.out.cell 0 (by omega)
                    have k1 : W4.cell? ⟨gv, 1, none⟩ = some (.int .i64 (n1 : Int)) := HV4.out.cell 1 (by omega)
                    have k2 : W4.cell? ⟨gv, 2, none⟩ = some (.int .i64 (n2 : Int)) := HV4.out.cell 2 (by omega)
                    go_wp2
                    go_quiet ((go_at_call 33; exact Calls.quiet_of_same (refRor_def _ _ (by omega) (by omega) (by omega) (by omega) _)))
                    rw [EU.out]
                    generalize hW5 : World.drewN _ _ = W5
                    have hb5 : Below W4.heap.size W4 W5 := by rw [← hW5]; exact below_drewN (Below.refl _ _) _
                    have HV5 : Hid (IRow W5 B2 (.slice (some ⟨gv, 0, none⟩) 8 cv) 8 [n0, n1, n2, n3, n4, n5, n6, n7]) := HV4.out.below hb5 (fun q hq => by simp only [Value.ownBlock, Option.some.injEq] at hq; omega)
                    have HD5 : Hid (Below B2 w3 W5) := HD4.out.trans (hb5.mono (by omega))
                    have hs5 : B2 ≤ W5.heap.size := Nat.le_trans (by omega) hb5.size
                    obtain ⟨A, hA⟩ : ∃ A : Nat, (T + U) % 4294967296 = A := ⟨_, rfl⟩
                    obtain ⟨E, hE⟩ : ∃ A : Nat, (n3 + T) % 4294967296 = A := ⟨_, rfl⟩
                    have HA : Hid (((T : Int) + U) % 4294967296 = (A : Int)) := by show _ = _; omega
                    have HE : Hid (((n3 : Int) + T) % 4294967296 = (E : Int)) := by show _ = _; omega
                    have HST : Hid (shaStep WL i [n0, n1, n2, n3, n4, n5, n6, n7] = [A, n0, n1, n2, E, n4, n5, n6]) := by
                      show _ = _
                      unfold shaStep
                      rw [HT.out, HU.out]
                      simp only [List.getD_cons_zero, List.getD_cons_succ]
                      rw [hA, hE]
                    have hnews : Hid (∀ (o : Obj) j u, (encI [n0, n1, n2, n3, n4, n5, n6])[j]? = some u → (W5.alloc o).cell? ((⟨gv, 0, none⟩ : Addr).add j) = some u) := by
                      intro o j u hj
                      refine (HV5.out.alloc o).2.cells (g := gv) rfl j u ?_
                      have e : [n0, n1, n2, n3, n4, n5, n6, n7] = [n0, n1, n2, n3, n4, n5, n6] ++ [n7] := rfl
                      rw [e, encI_append, List.getElem?_append_left (List.getElem?_eq_some_iff.1 hj).1]
                      exact hj
                    have hcv : 8 ≤ cv := HV5.out.le
                    clear hA hE HT HU EU hW5 hb5 hMJ hS0 k0 k1 k2 HV4 HD4
                    go_wp2_with (at_builtin; refine wpList_append_I _ rfl _ _ rfl B2 (.slice (some ⟨W5.heap.size, 0, none⟩) 1 1) 1 [A] rfl (IRow.one W5 B2 A _ HA.out hs5) ⟨gv, 0, none⟩ 7 cv [n0, n1, n2, n3, n4, n5, n6] rfl rfl (hnews.out _) (by omega) (by omega) (by simp; omega) ?_; intro g6 cap6 w6 hM6 hg6 hat6 hlt6; have HM6 : Hid (IRow w6 B2 (.slice (some ⟨g6, 0, none⟩) 8 cap6) 8 [A, n0, n1, n2, n3, n4, n5, n6]) := hM6; have q4 : w6.cell? ⟨g6, 4, none⟩ = some (.int .i64 (n3 : Int)) := HM6.out.cell 4 (by omega); have f4 := HM6.out.fro 4; have hg6' : (W5.alloc (.cells #[.int .i64 (((T : Int) + U) % 4294967296)] 3)).grownBy w6 (some W5.heap.size) := hg6)
                    go_roundw
                    case rel =>
                      refine ⟨i + 1, g6, cap6, by omega, by go_num, rfl, ?_, HM6.out.ge g6 rfl, by simpa using hlt6, ?_⟩
                      · show IRow _ _ _ _ _
                        rw [HVV.out, HST.out]
                        exact HM6.out.set 4 E _ HE.out
                      · refine Below.setCell (Below.grown (HD5.out.alloc hs5 _) hg6' (by simp; omega) ?_) (HM6.out.ge g6 rfl) _
                        intro q hq
                        simp only [Option.some.injEq] at hq
                        omega
                    case measure => simp [intOf]; omega
                · as_aux_lemma =>
                    obtain rfl : i = 64 := by omega
                    have hV8 := HV.out.1
                    have hVl := shaRounds_lt WL X hXl 64
                    obtain ⟨V, hV⟩ : ∃ V, shaRounds WL X 64 = V := ⟨_, rfl⟩
                    rw [hV] at HV hV8 hVl HX1
                    clear hV
                    have hgh2 : gh < B2 := by omega
                    have HH4 : Hid (IRow wr w.heap.size (.slice (some ⟨gh, 0, none⟩) 8 ch) 8 (mixL V X 0)) := by
                      rw [mixL_self V X hX8]
                      exact HH3.out.below HD.out (fun q hq => by simp only [Value.ownBlock, Option.some.injEq] at hq; omega)
                    obtain ⟨W4, hW4⟩ : ∃ W4, W4 = wr := ⟨_, rfl⟩
                    subst hW4
                    have HBW : Hid (Below w.heap.size w W4) := HB.out.trans ((HB3.out.mono HB.out.size).trans (HD.out.mono (by have := HB.out.size; omega)))
                    have HCW : Hid (Cells W4 g L) := HCX.out.kept ((HD.out.block g (by omega)).trans (HB3.out.block g hgx))
                    have hgx2 : g < W4.heap.size := by omega
                    have hghx2 : gh < W4.heap.size := by omega
                    have hghB : w.heap.size ≤ gh := HH3.out.ge gh rfl
                    clear HI3 HH3 HB3 HD
                    have hgne2 : g ≠ gh := fun e => hgne e.symm
                    go_wp2
                    go_loopw [200] (fun vi wx => ∃ (j : Nat), j ≤ 8 ∧ vi = .int .i64 j ∧ Hid (IRow wx w.heap.size (.slice (some ⟨gh, 0, none⟩) 8 ch) 8 (mixL V X j)) ∧ Hid (∀ b, b ≠ gh → wx.heap[b]? = W4.heap[b]?) ∧ Hid (wx.heap.size = W4.heap.size) ∧ Hid (Below w.heap.size w wx)) (fun i _ => 8 - (intOf i).toNat)
                    case atStart => exact ⟨0, by omega, rfl, HH4, fun _ _ => rfl, rfl, HBW⟩
                    case round =>
                      obtain ⟨j, hj, rfl, HR, HF, HZ, HBX2⟩ := hrel
                      clear HH4
                      by_cases hlt2 : j < 8
                      · obtain ⟨x, hx⟩ : ∃ x, X.getD j 0 = x := ⟨_, rfl⟩
                        obtain ⟨y, hy⟩ : ∃ x, V.getD j 0 = x := ⟨_, rfl⟩
                        have hx1 : x < 4294967296 := by rw [← hx]; exact hXl j
                        have hy1 : y < 4294967296 := by rw [← hy]; exact hVl j
                        have kx : wr.cell? ⟨gh, j, none⟩ = some (.int .i64 (x : Int)) := by
                          rw [HR.out.cell j hlt2, mixL_at _ _ _ hlt2, hx]
                        have ky : wr.cell? ⟨gv, j, none⟩ = some (.int .i64 (y : Int)) := by
                          rw [← hy, ← HV.out.cell j hlt2]
                          simp only [World.cell?, HF.out gv (by omega)]
                        have kf := HR.out.fro j
                        have HN : Hid (IRow (wr.setCell ⟨gh, j, none⟩ (.int .i64 (((x : Int) + y) % 4294967296))) w.heap.size (.slice (some ⟨gh, 0, none⟩) 8 ch) 8 (mixL V X (j + 1))) := by
                          show IRow _ _ _ _ _
                          rw [mixL_succ, hx, hy]
                          exact HR.out.set j _ _ (by omega)
                        have HF2 : Hid (∀ b, b ≠ gh → (wr.setCell ⟨gh, j, none⟩ (.int .i64 (((x : Int) + y) % 4294967296))).heap[b]? = W4.heap[b]?) := by
                          intro b hb
                          rw [Below.heap_setCell _ _ _ _ hb]
                          exact HF.out b hb
                        have HZ2 : Hid ((wr.setCell ⟨gh, j, none⟩ (.int .i64 (((x : Int) + y) % 4294967296))).heap.size = W4.heap.size) := by
                          show _ = _
                          rw [← HZ.out]
                          simp
                        have HB2 : Hid (Below w.heap.size w (wr.setCell ⟨gh, j, none⟩ (.int .i64 (((x : Int) + y) % 4294967296)))) := HBX2.out.setCell hghB _
                        clear hx hy HV HCX HO HM HX1 HCW HG
                        go_wp2
                        go_region
                        generalize World.setCell _ _ _ = WX at HN HF2 HZ2 HB2 ⊢
                        go_wp2
                        go_roundw
                        case rel => exact ⟨j + 1, by omega, by go_num, HN, HF2, HZ2, HB2.out.drew⟩
                        case measure => simp [intOf]; omega
                      · obtain rfl : j = 8 := by omega
                        have hrel2 : ∀ (o' : Nat), (0 < gk → o' = o + 64) → Hid (0 < gk → o' = 64 * (k + 1)) := by
                          intro o' h
                          show 0 < gk → _
                          intro h2
                          have h3 := HO.out (by omega)
                          have h4 := h h2
                          omega
                        have HE1 : Hid (IRow wr w.heap.size (.slice (some ⟨gh, 0, none⟩) 8 ch) 8 (shaBlocks L (k + 1))) := by
                          rw [HX1.out, shaAdd_comm, ← mixL_eight]
                          exact HR
                        have HE2 : Hid (Cells wr g L) := HCW.out.kept (HF.out g hgne2)
                        have hz1 : gh < wr.heap.size := by rw [HZ.out]; exact hghx2
                        have hz2 : g < wr.heap.size := by rw [HZ.out]; exact hgx2
                        by_cases hc : c = 64
                        · subst hc
                          go_wp2
                          go_roundg gk
                          case measure => omega
                          case rel => exact ⟨k + 1, _, _, _, by omega, hrel2 _ (by have := HM.out; omega), by show _ = _; have := HM.out; omega, by omega, rfl, HE1, HE2, HBX2, hz1, hz2⟩
                        · have hc2 : 64 < c := by omega
                          go_wp2
                          go_roundg gk
                          case measure => omega
                          case rel => exact ⟨k + 1, _, _, _, by omega, hrel2 _ (fun _ => rfl), by show _ = _; have := HM.out; omega, by omega, rfl, HE1, HE2, HBX2, hz1, hz2⟩
end Go.Proofs.YtooaiamfbmjmnaaFmt
