/- The law ListPieces, walked. -/
import Derived.Test.YtapgbckpiffgnacCct
import Derived.Test.YtapgbckpiffgnacLBk
import Derived.Test.YtapgbckpiffgnacPick
import Derived.Test.YtapgbckpiffgnacShRep
namespace Go.Proofs.Ytapgbckpiffgnac
open Go.RowKit Go.Shelf

theorem repeat_gaps : ∀ z : Nat, Lib.repeatL [32, 44, 9] z = gapsL z
  | 0 => rfl
  | z + 1 => by rw [Lib.repeatL, repeat_gaps z]; rfl
theorem list_gaps {a b : ByteArray} {xs ys : List ByteArray} (ha : listP 0 (splitL 44 a.data.toList) = .ok (texts xs)) (hb : listP 0 (splitL 44 b.data.toList) = .ok (texts ys)) (k : Nat) :
    listP 0 (splitL 44 (a.data.toList ++ gapsL (k + 1) ++ b.data.toList)) = .ok (texts (xs ++ ys)) := by
  have := okL_gaps ((okL_iff _ _).1 hb) k _ _ ((okL_iff _ _).1 ha)
  rw [okL_iff]
  unfold texts at *
  rw [List.map_append]
  exact this
theorem strs_pair (w : World) (x y : Value) (t : TypeId) : (w.alloc (.cells #[x, y] t)).cell? ⟨w.heap.size, 0, none⟩ = some x ∧ (w.alloc (.cells #[x, y] t)).cell? ⟨w.heap.size, 0 + 1, none⟩ = some y := ⟨cells_at _ _ _ 0, cells_at _ _ _ 1⟩
set_option maxRecDepth 100000 in
set_option maxHeartbeats 4000000 in
theorem listPieces_walk (a : ByteArray) (_ha : a.size ≤ 140737488355328) (b : ByteArray) (_hb : b.size ≤ 140737488355328) (n : Int) (n0 : -9223372036854775808 ≤ n) (n1 : n ≤ 9223372036854775807) (w : World) :
    Calls Try.prog 4 #[.string a, .string b, .int .i64 n] w fun e w' => e = .returned (.bool true) ∧ Below w.heap.size w w' := by
  by_cases h : (300 : Int) < (a.size : Int) + (b.size : Int)
  · clear n0 n1
    go_enter Try.func4, Try.ntmps4
    go_wp2_with (go_at_call 6; refine (worded_any _).mono ?_; rintro e w1 ⟨rfl, hb1⟩)
    go_ret
    exact ⟨rfl, hb1⟩
  · have h3 : a.size + b.size ≤ 300 := by omega
    clear _ha _hb
    have hp := pickI_in n 4 (by omega)
    have kn : ∀ w, Calls Try.prog 15 #[.int .i64 n, .int .i64 4] w fun e w' => e = .returned (.int .i64 (pickI n 4)) ∧ w' = w := fun w => pick_any n _ n0 n1 (by omega) (by omega) w
    obtain ⟨p, HP⟩ : ∃ p : Nat, Hid (pickI n 4 = (p : Int)) := ⟨(pickI n 4).toNat, by show _ = _; omega⟩
    rw [HP.out] at hp kn
    have hp4 : p < 4 := by omega
    clear n0 n1 hp
    go_enter Try.func4, Try.ntmps4
    go_wp2_with (go_at_call 6; refine (worded_any _).mono ?_; rintro e w1 ⟨rfl, hb1⟩)
    refine (list_any a (by omega) _).mono ?_
    rintro e w2 ⟨⟨xs, vx, hx, hx40, rfl, hox⟩ | ⟨xs, hx, hx40, rfl⟩ | ⟨q, g, hx, rfl, _⟩, hb2⟩
    · obtain ⟨ax, cx, gx, rfl, hsx⟩ := hox.strs
      have HSX : Hid (Strs w2 ax xs.length gx 0 xs) := hsx
      have HLX : Hid (listP 0 (splitL 44 a.data.toList) = .ok (texts xs)) := hx
      have hB2 : Below w.heap.size w w2 := hb1.trans (hb2.mono hb1.size)
      clear hsx hox hx hb1 hb2
      go_wp2_with fail
      refine (list_any b (by omega) _).mono ?_
      rintro e w3 ⟨⟨ys, vy, hy, hy40, rfl, hoy⟩ | ⟨ys, hy, hy40, rfl⟩ | ⟨q, g, hy, rfl, _⟩, hb3⟩
      · obtain ⟨ay, cy, gy, rfl, hsy⟩ := hoy.strs
        have HSY : Hid (Strs w3 ay ys.length gy 0 ys) := hsy
        have HLY : Hid (listP 0 (splitL 44 b.data.toList) = .ok (texts ys)) := hy
        have hB3 : Below w.heap.size w w3 := hB2.trans (hb3.mono hB2.size)
        have HSX3 : Hid (Strs w3 ax xs.length gx 0 xs) := HSX.out.below hb3
        clear hsy hoy hy hb3 HSX hB2
        by_cases hsum : (40 : Int) < (xs.length : Int) + (ys.length : Int)
        · go_wp2
          go_ret
          exact ⟨rfl, hB3⟩
        · obtain ⟨o, HO⟩ : ∃ o : ByteArray, Hid ((⟨(Lib.repeatL (⟨#[32, 44, 9]⟩ : ByteArray).data.toList (p + 1)).toArray⟩ : ByteArray) = o) := ⟨_, rfl⟩
          have HOd : Hid (o.data.toList = gapsL (p + 1)) := by show _ = _; rw [← HO.out]; show Lib.repeatL [32, 44, 9] (p + 1) = _; exact repeat_gaps _
          have hoz : o.size ≤ 12 := by
            rw [← len_data, HOd.out]
            have : ∀ p : Fin 4, (gapsL (p.1 + 1)).length ≤ 12 := by decide
            exact this ⟨p, hp4⟩
          have hrep : ∀ w, Calls Try.prog 14 #[.string ⟨#[32, 44, 9]⟩, .int .i64 (1 + (p : Int))] w fun e w' => e = .returned (.string o) ∧ Below w.heap.size w w' := fun w => by
            rw [← HO.out, show (1 : Int) + (p : Int) = ((p + 1 : Nat) : Int) by omega]
            exact Any.strings_Repeat lays105 Builder_Extra_105 ⟨#[32, 44, 9]⟩ (p + 1) w (by omega) (by rw [show (⟨#[32, 44, 9]⟩ : ByteArray).size = 3 from rfl]; omega)
          have hz : (a ++ o ++ b).size ≤ 400 := by rw [ByteArray.size_append, ByteArray.size_append]; omega
          have HLZ : Hid (listP 0 (splitL 44 (a ++ o ++ b).data.toList) = .ok (texts (xs ++ ys))) := by
            show _ = _
            have e : (a ++ o ++ b).data.toList = a.data.toList ++ gapsL (p + 1) ++ b.data.toList := by rw [← HOd.out]; simp
            rw [e, list_gaps HLX.out HLY.out p]
          go_wp2_with fail
          refine (kn _).mono ?_
          rintro e w4 ⟨rfl, hw⟩
          obtain rfl := hw.symm
          go_wp2_with fail
          refine (hrep _).mono ?_
          rintro e w5 ⟨rfl, hb5⟩
          have hB5 : Below w.heap.size w w5 := hB3.trans (hb5.mono hB3.size)
          have HSX5 : Hid (Strs w5 ax xs.length gx 0 xs) := HSX3.out.below hb5
          have HSY5 : Hid (Strs w5 ay ys.length gy 0 ys) := HSY.out.below hb5
          clear hb5 HSX3 HSY hB3
          go_wp2_with fail
          refine (list_any (a ++ o ++ b) (by omega) _).mono ?_
          rintro e w6 ⟨⟨zs, vz, hzs, hz40, rfl, hoz2⟩ | ⟨zs, hzs, hz40, rfl⟩ | ⟨q, g, hzs, rfl, _⟩, hb6⟩
          · rw [HLZ.out] at hzs
            obtain rfl := texts_inj (Except.ok.inj hzs)
            obtain ⟨az, cz, gz, rfl, hsz⟩ := hoz2.strs
            have HSZ : Hid (Strs w6 az (xs ++ ys).length gz 0 (xs ++ ys)) := hsz
            have hB6 : Below w.heap.size w w6 := hB5.trans (hb6.mono hB5.size)
            have HSX6 : Hid (Strs w6 ax xs.length gx 0 xs) := HSX5.out.below hb6
            have HSY6 : Hid (Strs w6 ay ys.length gy 0 ys) := HSY5.out.below hb6
            clear hsz hoz2 hzs hb6 HSX5 HSY5 hB5 HLZ HLX HLY
            obtain ⟨m, HM⟩ : ∃ m : Nat, Hid ((xs ++ ys).length = m) := ⟨_, rfl⟩
            have hm80 : m ≤ 80 := by rw [← HM.out, List.length_append]; omega
            have HSZ2 : Hid (Strs w6 az m gz 0 (xs ++ ys)) := by have := HSZ.out; rw [HM.out] at this; exact this
            rw [HM.out]
            clear HSZ
            go_wp2_with fail
            have hpair := strs_pair w6 (.slice ax xs.length cx) (.slice ay ys.length cy) 22
            have hbA : Below w6.heap.size w6 (w6.alloc (.cells #[.slice ax xs.length cx, .slice ay ys.length cy] 22)) := (Below.refl _ _).alloc (Nat.le_refl _) _
            refine (concat_two w6.heap.size ax ay xs.length cx gx 0 ys.length cy gy 0 xs ys _ (by simp) hpair.1 hpair.2 (HSX6.out.below hbA) (HSY6.out.below hbA) (by omega) (by omega)).mono ?_
            rintro e w7 ⟨v7, rfl, ho7, hb7⟩
            obtain ⟨a7, c7, g7, rfl, hs7⟩ := ho7.strs
            have HS7 : Hid (Strs w7 a7 m g7 0 (xs ++ ys)) := by have := hs7; rw [HM.out] at this; exact this
            rw [HM.out]
            have hB7 : Below w.heap.size w w7 := (hB6.alloc hB6.size _).trans (hb7.mono (by have := hB6.size; simp; omega))
            have HSZ7 : Hid (Strs w7 az m gz 0 (xs ++ ys)) := (HSZ2.out.below hbA).below hb7
            clear hs7 ho7 hpair hbA hb7
            go_wp2_with fail
            refine (equal_same az a7 m _ gz 0 _ g7 0 (xs ++ ys) _ (by omega) HSZ7.out HS7.out).mono ?_
            rintro e w8 ⟨rfl, n8, rfl⟩
            go_wp2
            go_ret
            exact ⟨rfl, drewN_at hB7 _⟩
          · rw [HLZ.out] at hzs
            have := texts_inj (Except.ok.inj hzs)
            rw [← this, List.length_append] at hz40
            omega
          · rw [HLZ.out] at hzs
            cases hzs
      · have hB3 : Below w.heap.size w w3 := hB2.trans (hb3.mono hB2.size)
        clear hy hy40
        go_wp2
        go_ret
        exact ⟨rfl, hB3⟩
      · have hB3 : Below w.heap.size w w3 := hB2.trans (hb3.mono hB2.size)
        clear hy
        go_wp2
        go_ret
        exact ⟨rfl, hB3⟩
    · have hB2 : Below w.heap.size w w2 := hb1.trans (hb2.mono hb1.size)
      clear hx hx40 hb1 hb2
      go_wp2_with fail
      refine (list_any b (by omega) _).mono ?_
      rintro e w3 ⟨⟨ys, vy, hy, hy40, rfl, hoy⟩ | ⟨ys, hy, hy40, rfl⟩ | ⟨q, g, hy, rfl, _⟩, hb3⟩
      all_goals
        have hB3 : Below w.heap.size w w3 := hB2.trans (hb3.mono hB2.size)
        clear hy hb3 hB2
        go_wp2
        go_ret
        exact ⟨rfl, hB3⟩
    · have hB2 : Below w.heap.size w w2 := hb1.trans (hb2.mono hb1.size)
      clear hx hb1 hb2
      go_wp2_with fail
      refine (list_any b (by omega) _).mono ?_
      rintro e w3 ⟨⟨ys, vy, hy, hy40, rfl, hoy⟩ | ⟨ys, hy, hy40, rfl⟩ | ⟨q, g, hy, rfl, _⟩, hb3⟩
      all_goals
        have hB3 : Below w.heap.size w w3 := hB2.trans (hb3.mono hB2.size)
        clear hy hb3 hB2
        go_wp2
        go_ret
        exact ⟨rfl, hB3⟩
end Go.Proofs.Ytapgbckpiffgnac
