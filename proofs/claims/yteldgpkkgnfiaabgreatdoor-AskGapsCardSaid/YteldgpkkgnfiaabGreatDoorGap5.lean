/- The law AskGaps, walked. -/
import Derived.Test.YteldgpkkgnfiaabGreatDoorAskd
import Derived.Test.YteldgpkkgnfiaabGreatDoorEqc
import Derived.Test.YteldgpkkgnfiaabGreatDoorAkS
import Derived.Test.YteldgpkkgnfiaabGreatDoorPick
import Derived.Test.YteldgpkkgnfiaabGreatDoorShRep
import Derived.Test.YteldgpkkgnfiaabGreatDoorTlA
namespace Go.Proofs.YteldgpkkgnfiaabGreatDoor
open Go.RowKit

theorem rep_gap (l : List UInt8) (ht : l.all gapB = true) : ∀ k, (Lib.repeatL l k).all gapB = true
  | 0 => rfl
  | k + 1 => by rw [Lib.repeatL, List.all_append, ht, rep_gap l ht k]; rfl
theorem rep_long (l : List UInt8) : ∀ k, (Lib.repeatL l k).length = k * l.length
  | 0 => by simp [Lib.repeatL]
  | k + 1 => by rw [Lib.repeatL, List.length_append, rep_long l k, Nat.succ_mul]; omega
theorem repeat_any (t : ByteArray) (ht : t.data.toList.all gapB = true) (h3 : t.size ≤ 3) (k : Nat) (hk : k < 4) : ∃ o : ByteArray, o.data.toList.all gapB = true ∧ o.size ≤ 9 ∧
    ∀ w, Calls Tryz.prog 7 #[.string t, .int .i64 (k : Int)] w fun e w' => e = .returned (.string o) ∧ Below w.heap.size w w' := by
  have hkt : k * t.size ≤ 3 * 3 := Nat.mul_le_mul (by omega) h3
  refine ⟨⟨(Lib.repeatL t.data.toList k).toArray⟩, rep_gap _ ht k, ?_, fun w => ?_⟩
  · have e : (⟨(Lib.repeatL t.data.toList k).toArray⟩ : ByteArray).size = (Lib.repeatL t.data.toList k).length := rfl
    rw [e, rep_long, len_data]
    omega
  · exact Any.strings_Repeat lays105 Builder_Extra_105 t k w (by omega) (by rw [Nat.mul_comm]; omega)
theorem pick_four (n : Int) (h0 : -9223372036854775808 ≤ n) (h1 : n ≤ 9223372036854775807) : ∃ k : Nat, k < 4 ∧ ∀ w, Calls Tryz.prog 8 #[.int .i64 n, .int .i64 4] w fun e w' => e = .returned (.int .i64 (k : Int)) ∧ w' = w := by
  have h := pickI_in n 4 (by decide)
  refine ⟨(pickI n 4).toNat, by omega, fun w => ?_⟩
  rw [Int.toNat_of_nonneg h.1]
  exact pick_any n 4 h0 h1 (by decide) (by decide) w
theorem chals_none (w : World) : Chals w none 0 0 0 [] := ⟨rfl, fun h => absurd h (by omega), fun j c h => by simp at h, fun j c h => by simp at h, fun j c h => by simp at h, fun c h => by cases h⟩
theorem slight_on {cs ds : List ChV} (hx : xsOf ds = xsOf cs) (h : ∀ c ∈ cs, Slight c) : ∀ d ∈ ds, d.len ≤ 1000000 := fun d hd => by
  have : d.x ∈ xsOf cs := by rw [← hx]; exact List.mem_map.2 ⟨d, hd, rfl⟩
  obtain ⟨c, hc, e⟩ := List.mem_map.1 this
  have := (h c hc).1.1
  show d.x.params.length ≤ _
  rw [← e]
  omega
set_option maxRecDepth 100000 in
set_option maxHeartbeats 4000000 in
theorem askGaps_walk (s : ByteArray) (_hs : s.size ≤ 140737488355328) (n : Int) (hn0 : -9223372036854775808 ≤ n) (hn1 : n ≤ 9223372036854775807) (m : Int) (hm0 : -9223372036854775808 ≤ m) (hm1 : m ≤ 9223372036854775807) (w : World) (hg : ErrT w) :
    Calls Tryz.prog 3 #[.string s, .int .i64 n, .int .i64 m] w fun e w' => e = .returned (.bool true) ∧ Below w.heap.size w w' := by
  have HG : Hid (ErrT w) := hg
  clear hg
  obtain ⟨k, hk, pk⟩ := pick_four n hn0 hn1
  obtain ⟨o, og, oz, ro⟩ := repeat_any ⟨#[44, 32, 9]⟩ rfl (by decide) k hk
  obtain ⟨j, hj, pj⟩ := pick_four m hm0 hm1
  obtain ⟨z, zg, zz, rz⟩ := repeat_any ⟨#[32, 44]⟩ rfl (by decide) j hj
  have HA : Hid (askL (o ++ s).data.toList = askL s.data.toList) := by
    show _ = _
    have e : (o ++ s).data.toList = o.data.toList ++ s.data.toList := by simp
    rw [e, ask_ahead _ _ og]
  have HZ : Hid (∀ xs, askL s.data.toList = .ok xs → askL (s ++ z).data.toList = .ok xs) := fun xs h => by
    have e : (s ++ z).data.toList = s.data.toList ++ z.data.toList := by simp
    rw [e]
    exact ask_behind zg h
  clear og zg
  go_enter Tryz.func3, Tryz.ntmps3
  go_wp2_with fail
  refine (asked_any _).mono ?_
  rintro e w1 ⟨rfl, hb1⟩
  by_cases h400 : (400 : Int) < (s.size : Int)
  · go_wp2
    go_ret
    exact ⟨rfl, hb1⟩
  · have hs3 : s.size ≤ 400 := by omega
    have hs1 : (o ++ s).size ≤ 3000 := by rw [ByteArray.size_append]; omega
    have hs2 : (s ++ z).size ≤ 3000 := by rw [ByteArray.size_append]; omega
    have HB1 : Hid (Below w.heap.size w w1) := hb1
    clear hb1
    go_wp2_with fail
    refine (parse_any s (by omega) _).mono ?_
    rintro e w2 ⟨⟨cs, v, h1, h2, h3, rfl, hown⟩ | ⟨n1, left, v, h1, rfl, hat⟩, hb2⟩
    · obtain ⟨a, cap, g, ds, rfl, hC, hx, _, _⟩ := hown.chals
      have HB2 : Hid (Below w.heap.size w w2) := HB1.out.trans (hb2.mono HB1.out.size)
      have HSL : Hid (∀ d ∈ ds, d.len ≤ 1000000) := slight_on hx h3
      obtain ⟨nn, HNN⟩ : ∃ nn, Hid (cs.length = nn) := ⟨_, rfl⟩
      rw [HNN.out] at hC ⊢
      have hn8 : nn ≤ 8 := by rw [← HNN.out]; exact h2
      have HC : Hid (Chals w2 a nn g 0 ds) := hC
      have HK : Hid (askL s.data.toList = .ok (xsOf ds)) := by show _ = _; rw [h1, hx]
      clear h1 h2 h3 hown hC hx hb2
      go_wp2_with fail
      refine (pk _).mono ?_
      rintro e w3 ⟨rfl, hw⟩
      obtain rfl := hw.symm
      clear hw
      go_wp2_with fail
      refine (ro _).mono ?_
      rintro e w4 ⟨rfl, hb4⟩
      have HB4 : Hid (Below w.heap.size w w4 ∧ Chals w4 a nn g 0 ds) := ⟨HB2.out.trans (hb4.mono HB2.out.size), HC.out.below hb4⟩
      clear hb4
      go_wp2_with fail
      refine (parse_any (o ++ s) hs1 _).mono ?_
      rintro e w5 ⟨⟨cs2, v2, k1, k2, k3, rfl, hown2⟩ | ⟨n2, left2, v2, k1, _⟩, hb5⟩
      · obtain ⟨a2, cap2, g2, ds2, rfl, hC2, hx2, _, _⟩ := hown2.chals
        have hxx : xsOf ds = xsOf ds2 := by
          have := HA.out
          rw [k1, HK.out] at this
          rw [hx2]
          exact (Except.ok.inj this).symm
        have hll : cs2.length = nn := by
          have e1 := congrArg List.length hxx
          rw [xsOf_len, xsOf_len] at e1
          have e2 := hC2.len_eq
          have e3 := HB4.out.2.len_eq
          omega
        rw [hll] at hC2 ⊢
        have HC5 : Hid (Chals w5 a nn g 0 ds) := HB4.out.2.below hb5
        have heq := equalC_yes ds ds2 hxx HSL.out a a2 nn cap cap2 g 0 g2 0 (by omega) w5 HC5.out hC2
        have HB5 : Hid (Below w.heap.size w w5) := HB4.out.1.trans (hb5.mono HB4.out.1.size)
        clear k1 k2 k3 hown2 hC2 hx2 hxx hll hb5
        go_wp2_with fail
        refine (tell_nil _).mono ?_
        rintro e w6 ⟨rfl, hw⟩
        obtain rfl := hw.symm
        clear hw
        go_wp2_with fail
        refine (tell_nil _).mono ?_
        rintro e w6 ⟨rfl, hw⟩
        obtain rfl := hw.symm
        clear hw
        go_wp2_with fail
        refine heq.mono ?_
        rintro e w6 ⟨rfl, hb6⟩
        have HB6 : Hid (Below w.heap.size w w6 ∧ Chals w6 a nn g 0 ds) := ⟨HB5.out.trans (hb6.mono HB5.out.size), HC5.out.below hb6⟩
        clear hb6 heq
        go_wp2_with fail
        refine (pj _).mono ?_
        rintro e w7 ⟨rfl, hw⟩
        obtain rfl := hw.symm
        clear hw
        go_wp2_with fail
        refine (rz _).mono ?_
        rintro e w8 ⟨rfl, hb8⟩
        have HB8 : Hid (Below w.heap.size w w8 ∧ Chals w8 a nn g 0 ds) := ⟨HB6.out.1.trans (hb8.mono HB6.out.1.size), HB6.out.2.below hb8⟩
        clear hb8
        go_wp2_with fail
        refine (parse_any (s ++ z) hs2 _).mono ?_
        rintro e w9 ⟨⟨cs3, v3, k1, k2, k3, rfl, hown3⟩ | ⟨n3, left3, v3, k1, _⟩, hb9⟩
        · obtain ⟨a3, cap3, g3, ds3, rfl, hC3, hx3, _, _⟩ := hown3.chals
          have hxx : xsOf ds = xsOf ds3 := by
            have := HZ.out _ HK.out
            rw [k1] at this
            rw [hx3]
            exact (Except.ok.inj this).symm
          have hll : cs3.length = nn := by
            have e1 := congrArg List.length hxx
            rw [xsOf_len, xsOf_len] at e1
            have e2 := hC3.len_eq
            have e3 := HB8.out.2.len_eq
            omega
          rw [hll] at hC3 ⊢
          have heq := equalC_yes ds ds3 hxx HSL.out a a3 nn cap cap3 g 0 g3 0 (by omega) w9 (HB8.out.2.below hb9) hC3
          have HB9 : Hid (Below w.heap.size w w9) := HB8.out.1.trans (hb9.mono HB8.out.1.size)
          clear k1 k2 k3 hown3 hC3 hx3 hxx hll hb9
          go_wp2_with fail
          refine heq.mono ?_
          rintro e w10 ⟨rfl, hb10⟩
          clear heq
          go_wp2
          go_ret
          exact ⟨rfl, HB9.out.trans (hb10.mono HB9.out.size)⟩
        · have := HZ.out _ HK.out
          rw [k1] at this
          cases this
      · have := HA.out
        rw [k1, HK.out] at this
        cases this
    · have HB2 : Hid (Below w.heap.size w w2) := HB1.out.trans (hb2.mono HB1.out.size)
      have HAT : Hid (IsAt w2 v (w1.heap.size + 1) n1 ((s.size - left : Nat) : Int)) := hat
      have HK : Hid (askL s.data.toList = .error (n1, left)) := h1
      obtain ⟨eg, rfl, _, _, _, _⟩ := hat
      clear h1 hb2
      go_wp2_with fail
      refine (pk _).mono ?_
      rintro e w3 ⟨rfl, hw⟩
      obtain rfl := hw.symm
      clear hw
      go_wp2_with fail
      refine (ro _).mono ?_
      rintro e w4 ⟨rfl, hb4⟩
      have HB4 : Hid (Below w.heap.size w w4 ∧ IsAt w4 (.iface 124 (.pointer (some ⟨eg, 0, none⟩))) (w1.heap.size + 1) n1 ((s.size - left : Nat) : Int)) := ⟨HB2.out.trans (hb4.mono HB2.out.size), HAT.out.below hb4⟩
      clear hb4
      go_wp2_with fail
      refine (parse_any (o ++ s) hs1 _).mono ?_
      rintro e w5 ⟨⟨cs2, v2, k1, k2, k3, rfl, hown2⟩ | ⟨n2, left2, v2, k1, rfl, hat2⟩, hb5⟩
      · have := HA.out
        rw [k1, HK.out] at this
        cases this
      · have HB5 : Hid (Below w.heap.size w w5) := HB4.out.1.trans (hb5.mono HB4.out.1.size)
        obtain ⟨eg', he, c0, _, _, cl⟩ := HB4.out.2.below hb5
        cases he
        obtain ⟨f, rfl, d0, _, _, dl⟩ := hat2
        have h12 : n1 = n2 := by
          have := HA.out
          rw [k1, HK.out] at this
          cases this
          rfl
        subst h12
        obtain ⟨N, HN⟩ : ∃ N : Int, Hid ((n1 : Int) = N) := ⟨_, rfl⟩
        rw [HN.out] at c0 d0
        have HD : Hid (w5.cell? ⟨f, 0, none⟩ = some (.int .i64 N)) := d0
        have HL : Hid (f < w5.heap.size) := dl
        have HT1 := tell_at eg N w5 (HG.out.below HB5.out) c0 cl
        clear k1 hb5 c0 cl d0 dl
        have hNN : (N == N) = true := by simp
        go_wp2_with fail
        refine HT1.mono ?_
        rintro e w6 ⟨rfl, hb6⟩
        have HB6 : Hid (Below w.heap.size w w6) := HB5.out.trans (hb6.mono HB5.out.size)
        have HT2 := tell_at f N w6 (HG.out.below HB6.out) ((hb6.cell (p := ⟨f, 0, none⟩) HL.out).trans HD.out) (Nat.lt_of_lt_of_le HL.out hb6.size)
        clear hb6 HT1
        go_wp2_with fail
        refine HT2.mono ?_
        rintro e w7 ⟨rfl, hb7⟩
        have HB7 : Hid (Below w.heap.size w w7) := HB6.out.trans (hb7.mono HB6.out.size)
        clear hb7 HT2
        go_wp2_with fail
        refine (equalC_yes [] [] rfl (fun c h => by cases h) none none 0 0 0 0 0 0 0 (by omega) _ (chals_none _) (chals_none _)).mono ?_
        rintro e w8 ⟨rfl, hb8⟩
        go_wp2
        go_ret
        exact ⟨rfl, HB7.out.trans (hb8.mono HB7.out.size)⟩
end Go.Proofs.YteldgpkkgnfiaabGreatDoor
