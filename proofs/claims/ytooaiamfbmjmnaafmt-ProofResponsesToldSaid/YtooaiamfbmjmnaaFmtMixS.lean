/- The program's SHA-256 of one block's 64 words. -/
import Derived.Test.YtooaiamfbmjmnaaFmtSpread
namespace Go.Proofs.YtooaiamfbmjmnaaFmt
open Go.RowKit

def rorI (x : Int) (k : Int) : Int := ((rorN x.toNat k.toNat : Nat) : Int)
theorem right_def (x b : Int) (h0 : 0 ≤ x) (h1 : x < 4294967296) (hb0 : 1 ≤ b) (hb : b ≤ 31) (w : World) :
    Calls Tryf.prog 40 #[.int .u32 x, .int .i64 b] w fun e w' => e = .returned (.int .u32 (rorI x b)) ∧ w' = w :=
  right_any x b _ h0 h1 hb0 hb w rfl
theorem sig3 (x : Int) (k1 k2 k3 : Nat) (h0 : 0 ≤ x) (h1 : x < 4294967296) : ∃ z : Int, bits .xor .u32 (bits .xor .u32 (rorI x k1) (rorI x k2)) (rorI x k3) = z ∧ 0 ≤ z ∧ z < 4294967296 ∧ Hid (z = ((rorN x.toNat k1 ^^^ rorN x.toNat k2 ^^^ rorN x.toNat k3 : Nat) : Int)) := by
  have a1 := rorN_lt x.toNat k1 (by omega)
  have a2 := rorN_lt x.toNat k2 (by omega)
  have a3 := rorN_lt x.toNat k3 (by omega)
  refine ⟨_, rfl, ?_⟩
  simp only [rorI, Int.toNat_natCast]
  rw [xorU32 _ _ a1 a2, xorU32 _ _ (xor32_lt a1 a2) a3]
  have := xor32_lt (xor32_lt a1 a2) a3
  exact ⟨by omega, by omega, rfl⟩
theorem chU (e f g : Int) (e0 : 0 ≤ e) (e1 : e < 4294967296) (f0 : 0 ≤ f) (f1 : f < 4294967296) (g0 : 0 ≤ g) (g1 : g < 4294967296) :
    ∃ z : Int, bits .xor .u32 (bits .and .u32 e f) (bits .and .u32 (bits .xor .u32 IntKind.u32.max e) g) = z ∧ 0 ≤ z ∧ z < 4294967296 ∧ Hid (z = (((e.toNat &&& f.toNat) ^^^ (notN e.toNat &&& g.toNat) : Nat) : Int)) := by
  obtain ⟨n, rfl⟩ : ∃ n : Nat, e = n := ⟨e.toNat, by omega⟩
  obtain ⟨m, rfl⟩ : ∃ n : Nat, f = n := ⟨f.toNat, by omega⟩
  obtain ⟨k, rfl⟩ : ∃ n : Nat, g = n := ⟨g.toNat, by omega⟩
  simp only [Int.toNat_natCast]
  have a1 : n &&& m < 4294967296 := and32_lt (by omega)
  have a2 : notN n &&& k < 4294967296 := and32_lt (by omega)
  refine ⟨_, rfl, ?_⟩
  rw [umax, notU32 _ (by omega), andU32 _ _ (by omega) (by omega), andU32 _ _ (notN_lt _) (by omega), xorU32 _ _ a1 a2]
  have := xor32_lt a1 a2
  exact ⟨by omega, by omega, rfl⟩
theorem majU (e f g : Int) (e0 : 0 ≤ e) (e1 : e < 4294967296) (f0 : 0 ≤ f) (f1 : f < 4294967296) (g0 : 0 ≤ g) (g1 : g < 4294967296) :
    ∃ z : Int, bits .xor .u32 (bits .xor .u32 (bits .and .u32 e f) (bits .and .u32 e g)) (bits .and .u32 f g) = z ∧ 0 ≤ z ∧ z < 4294967296 ∧ Hid (z = (((e.toNat &&& f.toNat) ^^^ (e.toNat &&& g.toNat) ^^^ (f.toNat &&& g.toNat) : Nat) : Int)) := by
  obtain ⟨n, rfl⟩ : ∃ n : Nat, e = n := ⟨e.toNat, by omega⟩
  obtain ⟨m, rfl⟩ : ∃ n : Nat, f = n := ⟨f.toNat, by omega⟩
  obtain ⟨k, rfl⟩ : ∃ n : Nat, g = n := ⟨g.toNat, by omega⟩
  simp only [Int.toNat_natCast]
  have a1 : n &&& m < 4294967296 := and32_lt (by omega)
  have a2 : n &&& k < 4294967296 := and32_lt (by omega)
  have a3 : m &&& k < 4294967296 := and32_lt (by omega)
  refine ⟨_, rfl, ?_⟩
  rw [andU32 _ _ (by omega) (by omega), andU32 _ _ (by omega) (by omega), andU32 _ _ (by omega) (by omega), xorU32 _ _ a1 a2, xorU32 _ _ (xor32_lt a1 a2) a3]
  have := xor32_lt (xor32_lt a1 a2) a3
  exact ⟨by omega, by omega, rfl⟩
def Is8 (a b c d e f g h : Int) (v : List Nat) : Prop := a = (v.getD 0 0 : Nat) ∧ b = (v.getD 1 0 : Nat) ∧ c = (v.getD 2 0 : Nat) ∧ d = (v.getD 3 0 : Nat) ∧ e = (v.getD 4 0 : Nat) ∧ f = (v.getD 5 0 : Nat) ∧ g = (v.getD 6 0 : Nat) ∧ h = (v.getD 7 0 : Nat)
theorem sha_next (W : List Nat) (i : Nat) (a b c d e f g h S1 CH K X S0 MJ : Int) (v : List Nat) (H : Is8 a b c d e f g h v)
    (h1 : S1 = ((rorN e.toNat 6 ^^^ rorN e.toNat 11 ^^^ rorN e.toNat 25 : Nat) : Int)) (h2 : CH = (((e.toNat &&& f.toNat) ^^^ (notN e.toNat &&& g.toNat) : Nat) : Int)) (h3 : K = ((rootsL.getD i 0 : Nat) : Int)) (h4 : X = ((W.getD i 0 : Nat) : Int))
    (h5 : S0 = ((rorN a.toNat 2 ^^^ rorN a.toNat 13 ^^^ rorN a.toNat 22 : Nat) : Int)) (h6 : MJ = (((a.toNat &&& b.toNat) ^^^ (a.toNat &&& c.toNat) ^^^ (b.toNat &&& c.toNat) : Nat) : Int)) (T U : Int) (hT : (h + S1 + CH + K + X) % 4294967296 = T) (hU : (S0 + MJ) % 4294967296 = U) :
    Is8 ((T + U) % 4294967296) a b c ((d + T) % 4294967296) e f g (shaStep W i v) := by
  obtain ⟨ra, rb, rc, rd, re, rf, rg, rh⟩ := H
  subst ra rb rc rd re rf rg rh
  simp only [Int.toNat_natCast] at h1 h2 h5 h6
  have e1 : ((v.getD 7 0 : Nat) : Int) + S1 + CH + K + X = ((shaT W i v : Nat) : Int) := by
    rw [h1, h2, h3, h4, shaT]
    simp only [Int.natCast_add]
  have e2 : S0 + MJ = ((shaU v : Nat) : Int) := by
    rw [h5, h6, shaU]
    simp only [Int.natCast_add]
  rw [e1] at hT
  rw [e2] at hU
  generalize hTT : shaT W i v = TT at hT
  generalize hUU : shaU v = UU at hU
  unfold Is8 shaStep
  rw [hTT, hUU]
  simp only [List.getD_cons_zero, List.getD_cons_succ, and_true, true_and]
  generalize v.getD 3 0 = D3
  constructor
  · omega
  · omega
theorem roots_lt (i : Nat) (h : i < 64) : rootsL.getD i 0 < 4294967296 := by
  have : ∀ i : Fin 64, rootsL.getD i.val 0 < 4294967296 := by decide
  exact this ⟨i, h⟩
def mixL (x v : List Nat) (k : Nat) : List Nat := (List.range 8).map fun j => if j < k then (x.getD j 0 + v.getD j 0) % 4294967296 else v.getD j 0
theorem mixL_length (x v : List Nat) (k : Nat) : (mixL x v k).length = 8 := by simp [mixL]
theorem mixL_zero (x v : List Nat) (a b c d e f g h : Int) (H : Is8 a b c d e f g h v) : #[Value.int .u32 a, .int .u32 b, .int .u32 c, .int .u32 d, .int .u32 e, .int .u32 f, .int .u32 g, .int .u32 h] = encU (mixL x v 0) := by
  obtain ⟨ra, rb, rc, rd, re, rf, rg, rh⟩ := H
  subst ra rb rc rd re rf rg rh
  simp [encU, mixL, List.range_succ]
theorem mixL_eight (x v : List Nat) : mixL x v 8 = shaAdd x v := by
  unfold mixL shaAdd
  apply List.map_congr_left
  intro j hj
  rw [if_pos (by simpa using hj)]
theorem mixL_at (x v : List Nat) (k : Nat) (h : k < 8) : (mixL x v k).getD k 0 = v.getD k 0 := by
  simp [mixL, List.getD_eq_getElem?_getD, List.getElem?_map, List.getElem?_range h]
theorem mixL_succ (x v : List Nat) (k : Nat) : mixL x v (k + 1) = (mixL x v k).set k ((x.getD k 0 + v.getD k 0) % 4294967296) := by
  apply List.ext_getElem
  · simp [mixL]
  intro j h1 h2
  rw [List.getElem_set]
  simp only [mixL, List.getElem_map, List.getElem_range]
  by_cases h : k = j
  · subst h
    rw [if_pos rfl, if_pos (by omega)]
  · rw [if_neg h]
    by_cases h3 : j < k
    · rw [if_pos (by omega), if_pos h3]
    · rw [if_neg (by omega), if_neg h3]
theorem shaStep_lt (W : List Nat) (i : Nat) (v : List Nat) (h : ∀ j, v.getD j 0 < 4294967296) (j : Nat) : (shaStep W i v).getD j 0 < 4294967296 := by
  have h1 := Nat.mod_lt (shaT W i v + shaU v) (show 0 < 4294967296 by decide)
  have h2 := Nat.mod_lt (v.getD 3 0 + shaT W i v) (show 0 < 4294967296 by decide)
  unfold shaStep
  generalize (shaT W i v + shaU v) % 4294967296 = A at h1 ⊢
  generalize (v.getD 3 0 + shaT W i v) % 4294967296 = B at h2 ⊢
  match j with
  | 0 => simpa only [List.getD_cons_zero] using h1
  | 1 => simpa only [List.getD_cons_zero, List.getD_cons_succ] using h 0
  | 2 => simpa only [List.getD_cons_zero, List.getD_cons_succ] using h 1
  | 3 => simpa only [List.getD_cons_zero, List.getD_cons_succ] using h 2
  | 4 => simpa only [List.getD_cons_zero, List.getD_cons_succ] using h2
  | 5 => simpa only [List.getD_cons_zero, List.getD_cons_succ] using h 4
  | 6 => simpa only [List.getD_cons_zero, List.getD_cons_succ] using h 5
  | 7 => simpa only [List.getD_cons_zero, List.getD_cons_succ] using h 6
  | j + 8 => simp
theorem shaRounds_lt (W : List Nat) (v : List Nat) (h : ∀ j, v.getD j 0 < 4294967296) : ∀ i j, (shaRounds W v i).getD j 0 < 4294967296
  | 0, j => h j
  | i + 1, j => shaStep_lt W i _ (shaRounds_lt W v h i) j
theorem info8 : (Tryf.prog.info? 48).map (·.size) = some 8 := by kernel_rfl
set_option maxHeartbeats 8000000 in
set_option maxRecDepth 100000 in
theorem mixS_any (x : List Nat) (hx : x.length = 8) (hxl : ∀ j, x.getD j 0 < 4294967296) (W : List Nat) (hW : W.length = 64) (hWl : ∀ j, W.getD j 0 < 4294967296) (w : World) (HR0 : Hid (Roots w)) :
    Calls Tryf.prog 22 #[.agg (encU x), .agg (encU W)] w fun e w' => e = .returned (.agg (encU (shaAdd x (shaRounds W x 64)))) ∧ Below w.heap.size w w' := by
  have hl := encU_size x
  have hl2 := encU_size W
  rw [hx] at hl
  rw [hW] at hl2
  go_enter Tryf.func22, Tryf.ntmps22
  go_wp2
  generalize hW0 : World.alloc (World.alloc (World.alloc _ _) _) _ = W0
  have hB0 : Below w.heap.size w W0 := by
    rw [← hW0]
    exact (((Below.refl _ _).alloc (Nat.le_refl _) _).alloc (by simp) _).alloc (by simp; omega) _
  have hsz : W0.heap.size = w.heap.size + 3 := by rw [← hW0]; simp
  obtain ⟨h0, h1, h2⟩ : W0.heap[w.heap.size]? = some (.cells (encU x) 48) ∧ W0.heap[w.heap.size + 1]? = some (.cells (encU W) 52) ∧ W0.heap[w.heap.size + 1 + 1]? = some (.cells (encU (List.replicate 8 0)) 48) := by
    rw [← hW0]
    exact three_now _ _ _ _
  clear hW0 hl hl2
  have HB0 : Hid (Below w.heap.size w W0) := hB0
  have HH0 : Hid (W0.heap[w.heap.size]? = some (.cells (encU x) 48)) := h0
  have HH1 : Hid (W0.heap[w.heap.size + 1]? = some (.cells (encU W) 52)) := h1
  have HH2 : Hid (W0.heap[w.heap.size + 1 + 1]? = some (.cells (encU (List.replicate 8 0)) 48)) := h2
  clear h0 h1 h2 hB0
  have cell (j : Nat) (hj : j < 8) : ∃ X : Int, W0.cell? ⟨w.heap.size, j, none⟩ = some (.int .u32 X) ∧ 0 ≤ X ∧ X < 4294967296 ∧ Hid (X = (x.getD j 0 : Nat)) := by
    have := hxl j
    exact ⟨_, by rw [cell_of_row _ _ j _ _ _ HH0.out, encU_at _ _ (by omega)], by omega, by omega, rfl⟩
  obtain ⟨xa, ka, a0, a1, HXa⟩ := cell 0 (by omega)
  obtain ⟨xb, kb, b0, b1, HXb⟩ := cell 1 (by omega)
  obtain ⟨xc, kc, c0, c1, HXc⟩ := cell 2 (by omega)
  obtain ⟨xd, kd, d0, d1, HXd⟩ := cell 3 (by omega)
  obtain ⟨xe, ke, e0, e1, HXe⟩ := cell 4 (by omega)
  obtain ⟨xf, kf, f0, f1, HXf⟩ := cell 5 (by omega)
  obtain ⟨xg, kg, g0, g1, HXg⟩ := cell 6 (by omega)
  obtain ⟨xh, kh, h0, h1, HXh⟩ := cell 7 (by omega)
  have HI : Hid (Is8 xa xb xc xd xe xf xg xh x) := ⟨HXa.out, HXb.out, HXc.out, HXd.out, HXe.out, HXf.out, HXg.out, HXh.out⟩
  clear cell HXa HXb HXc HXd HXe HXf HXg HXh
  go_quiet (fail)
  go_wp2
  go_quiet (fail)
  go_wp2
  generalize hW1 : World.drewN (World.drewN _ _) _ = W1
  have hh1 : W1.heap = W0.heap := by rw [← hW1]; rfl
  have HB1 : Hid (Below w.heap.size w W1) := by rw [← hW1]; exact below_drewN (below_drewN HB0.out _) _
  have HK0 : Hid (W1.heap[w.heap.size]? = some (.cells (encU x) 48)) := by show _ = _; rw [hh1]; exact HH0.out
  have HK1 : Hid (W1.heap[w.heap.size + 1]? = some (.cells (encU W) 52)) := by show _ = _; rw [hh1]; exact HH1.out
  have HK2 : Hid (W1.heap[w.heap.size + 1 + 1]? = some (.cells (encU (List.replicate 8 0)) 48)) := by show _ = _; rw [hh1]; exact HH2.out
  have hsz1 : W1.heap.size = w.heap.size + 3 := by rw [hh1]; exact hsz
  clear hW1 hh1 HB0 HH0 HH1 HH2 hsz ka kb kc kd ke kf kg kh
  go_loopw [5, 6, 7, 8, 9, 10, 11, 12, 34] (fun va vb vc vd ve vf vg vh vi wx => ∃ (i : Nat) (xa xb xc xd xe xf xg xh : Int), i ≤ 64 ∧ vi = .int .i64 i ∧ va = .int .u32 xa ∧ vb = .int .u32 xb ∧ vc = .int .u32 xc ∧ vd = .int .u32 xd ∧ ve = .int .u32 xe ∧ vf = .int .u32 xf ∧ vg = .int .u32 xg ∧ vh = .int .u32 xh
        ∧ 0 ≤ xa ∧ xa < 4294967296 ∧ 0 ≤ xb ∧ xb < 4294967296 ∧ 0 ≤ xc ∧ xc < 4294967296 ∧ 0 ≤ xd ∧ xd < 4294967296 ∧ 0 ≤ xe ∧ xe < 4294967296 ∧ 0 ≤ xf ∧ xf < 4294967296 ∧ 0 ≤ xg ∧ xg < 4294967296 ∧ 0 ≤ xh ∧ xh < 4294967296
        ∧ Hid (Is8 xa xb xc xd xe xf xg xh (shaRounds W x i)) ∧ Hid (Below W1.heap.size W1 wx)) (fun _ _ _ _ _ _ _ _ i _ => 64 - (intOf i).toNat)
  case atStart => exact ⟨0, _, _, _, _, _, _, _, _, by omega, rfl, rfl, rfl, rfl, rfl, rfl, rfl, rfl, rfl, a0, a1, b0, b1, c0, c1, d0, d1, e0, e1, f0, f1, g0, g1, h0, h1, HI, Below.refl _ _⟩
  case round =>
    clear a0 a1 b0 b1 c0 c1 d0 d1 e0 e1 f0 f1 g0 g1 h0 h1 HI
    obtain ⟨i, ya, yb, yc, yd, ye, yf, yg, yh, hi, rfl, rfl, rfl, rfl, rfl, rfl, rfl, rfl, rfl, a0, a1, b0, b1, c0, c1, d0, d1, e0, e1, f0, f1, g0, g1, h0, h1, HI, HD⟩ := hrel
    by_cases hlt : i < 64
    · obtain ⟨z, hz⟩ : ∃ z : Int, ((rootsL.getD i 0 : Nat) : Int) = z := ⟨_, rfl⟩
      have HZ : Hid (z = ((rootsL.getD i 0 : Nat) : Int)) := hz.symm
      have hroot : wr.cell? ⟨1, i, none⟩ = some (.int .u32 z) := by
        have := HR0.out.1 i hlt
        have hgs := HR0.out.2
        rw [hz] at this
        rw [← this]
        simp only [World.cell?, HD.out.block _ (Nat.lt_of_lt_of_le hgs (by omega)), HB1.out.block _ hgs]
      have hz0 : 0 ≤ z := by omega
      have hz1 : z < 4294967296 := by have := roots_lt i hlt; omega
      obtain ⟨nn, hnn⟩ : ∃ nn : Int, ((W.getD i 0 : Nat) : Int) = nn := ⟨_, rfl⟩
      have HNN : Hid (nn = ((W.getD i 0 : Nat) : Int)) := hnn.symm
      have hn0 : 0 ≤ nn := by omega
      have hn1 : nn < 4294967296 := by have := hWl i; omega
      have hwrd : wr.cell? ⟨w.heap.size + 1, i, none⟩ = some (.int .u32 nn) := by
        have e := HK1.out
        rw [← HD.out.block _ (by omega)] at e
        rw [cell_of_row _ _ i _ _ _ e, encU_at _ _ (by omega), hnn]
      clear hz hnn
      obtain ⟨S1, hS1, s10, s11, HS1⟩ := sig3 ye 6 11 25 e0 e1
      obtain ⟨CH, hCH, ch0, ch1, HCH⟩ := chU ye yf yg e0 e1 f0 f1 g0 g1
      obtain ⟨S0, hS0, s00, s01, HS0⟩ := sig3 ya 2 13 22 a0 a1
      obtain ⟨MJ, hMJ, mj0, mj1, HMJ⟩ := majU ya yb yc a0 a1 b0 b1 c0 c1
      obtain ⟨T, hT⟩ : ∃ T : Int, (yh + S1 + CH + z + nn) % 4294967296 = T := ⟨_, rfl⟩
      obtain ⟨U, hU⟩ : ∃ U : Int, (S0 + MJ) % 4294967296 = U := ⟨_, rfl⟩
      have hT0 : 0 ≤ T := by omega
      have hT1 : T < 4294967296 := by omega
      have hU0 : 0 ≤ U := by omega
      have hU1 : U < 4294967296 := by omega
      have HNX : Hid (Is8 ((T + U) % 4294967296) ya yb yc ((yd + T) % 4294967296) ye yf yg (shaRounds W x (i + 1))) :=
        sha_next W i ya yb yc yd ye yf yg yh S1 CH z nn S0 MJ _ HI.out HS1.out HCH.out HZ.out HNN.out HS0.out HMJ.out T U hT hU
      clear HS1 HCH HS0 HMJ HZ HNN HI
      go_wp2
      have hTT : (((yh + bits .xor .u32 (bits .xor .u32 (rorI ye 6) (rorI ye 11)) (rorI ye 25) + bits .xor .u32 (bits .and .u32 ye yf) (bits .and .u32 (bits .xor .u32 (if IntKind.u32.signed = true then -1 else IntKind.u32.max) ye) yg) + z) % 4294967296 + nn) % 4294967296) = T := by
        have hs : (if IntKind.u32.signed = true then (-1 : Int) else IntKind.u32.max) = IntKind.u32.max := rfl
        have e6 : rorI ye 6 = rorI ye (6 : Nat) := rfl
        have e11 : rorI ye 11 = rorI ye (11 : Nat) := rfl
        have e25 : rorI ye 25 = rorI ye (25 : Nat) := rfl
        rw [hs, e6, e11, e25, hS1, hCH]
        omega
      have HTT : Hid ((((yh + bits .xor .u32 (bits .xor .u32 (rorI ye 6) (rorI ye 11)) (rorI ye 25) + bits .xor .u32 (bits .and .u32 ye yf) (bits .and .u32 (bits .xor .u32 (if IntKind.u32.signed = true then -1 else IntKind.u32.max) ye) yg) + z) % 4294967296 + nn) % 4294967296) = T) := hTT
      have HU : Hid ((S0 + MJ) % 4294967296 = U) := hU
      clear hTT hS1 hCH hT hU
      go_quiet ((go_at_call 40; exact Calls.quiet_of_same (right_def _ _ e0 e1 (by omega) (by omega) _)))
      rw [HTT.out]
      clear HTT
      have hS0' : bits .xor .u32 (bits .xor .u32 (rorI ya 2) (rorI ya 13)) (rorI ya 22) = S0 := hS0
      clear hS0
      go_wp2_with (go_at_call 40; refine (right_def _ _ a0 a1 (by omega) (by omega) _).mono ?_; rintro e w2 ⟨rfl, hw2⟩; rw [hw2]; clear hw2 w2)
      go_roundw
      case rel =>
        exact ⟨i + 1, (T + (S0 + MJ) % 4294967296) % 4294967296, ya, yb, yc, (yd + T) % 4294967296, ye, yf, yg, by omega, by go_num, rfl, rfl, rfl, rfl, rfl, rfl, rfl, rfl, by omega, by omega, a0, a1, b0, b1, c0, c1, by omega, by omega, e0, e1, f0, f1, g0, g1, by rw [HU.out]; exact HNX, below_drewN HD.out _⟩
      case measure => simp [intOf]; omega
    · obtain rfl : i = 64 := by omega
      have hvl := shaRounds_lt W x hxl 64
      obtain ⟨v, hv⟩ : ∃ v, shaRounds W x 64 = v := ⟨_, rfl⟩
      rw [hv] at HI hvl
      have HV : Hid (shaRounds W x 64 = v) := hv
      clear hv
      obtain ⟨bm, hbm⟩ : ∃ bm, wr.heap.size = bm := ⟨_, rfl⟩
      have hbm1 : w.heap.size + 3 ≤ bm := by have := HD.out.size; omega
      have HBM : Hid (wr.heap.size = bm) := hbm
      have hrow : Hid (_ = encU (mixL x v 0)) := mixL_zero x v _ _ _ _ _ _ _ _ HI.out
      clear hbm
      go_wp2
      rw [hrow.out, HBM.out]
      have hbm := HBM.out
      generalize hW2 : World.alloc wr _ = W2
      have HM : Hid (W2.heap[bm]? = some (.cells (encU (mixL x v 0)) 48)) := by
        show _ = _
        rw [← hW2, ← hbm]
        exact heap_alloc_new wr _
      have hB2 : Below W1.heap.size W1 W2 := by rw [← hW2]; exact HD.out.alloc HD.out.size _
      have HB2 : Hid (Below w.heap.size w W2) := HB1.out.trans (hB2.mono (by omega))
      have HL0 : Hid (W2.heap[w.heap.size]? = some (.cells (encU x) 48)) := by show _ = _; rw [hB2.block _ (by omega)]; exact HK0.out
      have HL2 : Hid (W2.heap[w.heap.size + 1 + 1]? = some (.cells (encU (List.replicate 8 0)) 48)) := by show _ = _; rw [hB2.block _ (by omega)]; exact HK2.out
      clear hW2 hB2 hrow HK0 HK1 HK2 HB1 HD HI a0 a1 b0 b1 c0 c1 d0 d1 e0 e1 f0 f1 g0 g1 h0 h1 hbm HBM
      go_loopw [106] (fun vi wx => ∃ (i : Nat), i ≤ 8 ∧ vi = .int .i64 i ∧ Hid (wx.heap[bm]? = some (.cells (encU (mixL x v i)) 48)) ∧ Hid (Below bm W2 wx)) (fun i _ => 8 - (intOf i).toNat)
      case atStart => exact ⟨0, by omega, rfl, HM, Below.refl _ _⟩
      case round =>
        obtain ⟨i, hi8, rfl, HR, HD⟩ := hrel
        clear HM
        by_cases hlt : i < 8
        · have hfro : wr.frozen? ⟨bm, i, none⟩ = false := by simp [World.frozen?, HR.out]
          obtain ⟨X, hX⟩ : ∃ X : Int, ((v.getD i 0 : Nat) : Int) = X := ⟨_, rfl⟩
          obtain ⟨Y, hY⟩ : ∃ X : Int, ((x.getD i 0 : Nat) : Int) = X := ⟨_, rfl⟩
          have hx1 := hvl i
          have hy1 := hxl i
          have kX : wr.cell? ⟨bm, i, none⟩ = some (.int .u32 X) := by
            rw [cell_of_row _ _ i _ _ _ HR.out, encU_at _ _ (by rw [mixL_length]; exact hlt), mixL_at _ _ _ hlt, hX]
          have kY : wr.cell? ⟨w.heap.size, i, none⟩ = some (.int .u32 Y) := by
            have e := HL0.out
            rw [← HD.out.block _ (by omega)] at e
            rw [cell_of_row _ _ i _ _ _ e, encU_at _ _ (by omega), hY]
          have x0 : 0 ≤ X := by omega
          have y0 : 0 ≤ Y := by omega
          have x1 : X < 4294967296 := by omega
          have y1 : Y < 4294967296 := by omega
          have HFR : Hid ((wr.setCell ⟨bm, i, none⟩ (.int .u32 ((X + Y) % 4294967296))).heap[bm]? = some (.cells (encU (mixL x v (i + 1))) 48)) := by
            show _ = _
            rw [row_set _ _ _ _ _ _ _ HR.out, encU_set _ _ _ ((x.getD i 0 + v.getD i 0) % 4294967296) (by omega), mixL_succ]
          clear hX hY hx1 hy1
          go_wp2
          go_region
          have HD2 : Hid (Below bm W2 (wr.setCell ⟨bm, i, none⟩ (.int .u32 ((X + Y) % 4294967296)))) := HD.out.setCell (Nat.le_refl _) _
          generalize World.setCell _ _ _ = WX at HFR HD2 ⊢
          go_wp2
          go_roundw
          case rel => exact ⟨i + 1, by omega, by go_num, HFR, HD2.out.drew⟩
          case measure => simp [intOf]; omega
        · obtain rfl : i = 8 := by omega
          have hr2 : wr.heap[w.heap.size + 1 + 1]? = some (.cells (encU (List.replicate 8 0)) 48) := by rw [HD.out.block _ (by omega)]; exact HL2.out
          go_upto_region 16 with fail
          apply wp_region_lit
          refine wpList_load_arr wr rfl (.tmp 16) bm _ _ 48 _ _ _ rfl rfl HR.out Tryf.underlying48 (by rw [encU_size, mixL_length]; exact info8) ?_
          refine wpList_store_arr wr rfl (.tmp 4) (.tmp 118) (w.heap.size + 1 + 1) _ 48 _ _ rfl rfl rfl hr2 (by rw [encU_size, mixL_length]; exact info8) (by rw [encU_size, encU_size, mixL_length]; rfl) (encU_one _) ?_
          go_wp2
          refine ret_arr (p := 4) (ty := 48) (b := w.heap.size + 1 + 1) rfl rfl (setRow_heap wr (w.heap.size + 1 + 1) _ _ _ _ hr2) Tryf.underlying48 (by rw [encU_size, mixL_length]; exact info8) rfl ⟨?_, ?_⟩
          · rw [mixL_eight, HV.out]
          · exact below_setRow (HB2.out.trans (HD.out.mono (by omega))) (by omega) _
end Go.Proofs.YtooaiamfbmjmnaaFmt
