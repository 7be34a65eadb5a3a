/- The law UrlCase, walked. -/
import Derived.Test.YtpbipanafihabaaDoorPrs
import Derived.Test.YtpbipanafihabaaDoorNmd
import Derived.Test.YtpbipanafihabaaDoorUpE
import Derived.Test.YtpbipanafihabaaDoorAnyE
import Derived.Test.YtpbipanafihabaaDoorMxL
import Derived.Deep.Cut
import Derived.Deep.RegionWith
namespace Go.Proofs.YtpbipanafihabaaDoor
open Go.RowKit

/-- Five cells of one block, and what the world keeps. -/
structure U5 (w W : World) (b : Nat) (v0 v1 v2 v3 v4 : Value) : Prop where
  env : Env W
  bel : Below w.heap.size w W
  c0 : W.cell? ⟨b, 0, none⟩ = some v0
  c1 : W.cell? ⟨b, 1, none⟩ = some v1
  c2 : W.cell? ⟨b, 2, none⟩ = some v2
  c3 : W.cell? ⟨b, 3, none⟩ = some v3
  c4 : W.cell? ⟨b, 4, none⟩ = some v4
theorem U5.step {w W W' : World} {b : Nat} {v0 v1 v2 v3 v4 : Value} (h : U5 w W b v0 v1 v2 v3 v4) (hb : Below W.heap.size W W') : U5 w W' b v0 v1 v2 v3 v4 :=
  ⟨h.env.below hb (Nat.le_refl _), h.bel.trans (hb.mono h.bel.size), (hb.cell (p := ⟨b, 0, none⟩) (lt_of_cell h.c0)).trans h.c0, (hb.cell (p := ⟨b, 1, none⟩) (lt_of_cell h.c1)).trans h.c1, (hb.cell (p := ⟨b, 2, none⟩) (lt_of_cell h.c2)).trans h.c2, (hb.cell (p := ⟨b, 3, none⟩) (lt_of_cell h.c3)).trans h.c3, (hb.cell (p := ⟨b, 4, none⟩) (lt_of_cell h.c4)).trans h.c4⟩
theorem U5.alloc {w W : World} {b : Nat} {v0 v1 v2 v3 v4 : Value} (h : U5 w W b v0 v1 v2 v3 v4) (o : Obj) : U5 w (W.alloc o) b v0 v1 v2 v3 v4 := h.step ((Below.refl _ _).alloc (Nat.le_refl _) _)
theorem u5_new {w W : World} (h : Env W) (hb : Below w.heap.size w W) (v0 v1 v2 v3 v4 : Value) (t : TypeId) : U5 w (W.alloc (.cells #[v0, v1, v2, v3, v4] t)) W.heap.size v0 v1 v2 v3 v4 := by
  have hx : Below W.heap.size W (W.alloc (.cells #[v0, v1, v2, v3, v4] t)) := (Below.refl _ _).alloc (Nat.le_refl _) _
  exact ⟨h.below hx (Nat.le_refl _), hb.trans (hx.mono hb.size), cells_new _ _ _ 0, cells_new _ _ _ 1, cells_new _ _ _ 2, cells_new _ _ _ 3, cells_new _ _ _ 4⟩

set_option maxRecDepth 100000 in
set_option maxHeartbeats 2000000 in
theorem urlCase_walk (s : ByteArray) (_hs : s.size ≤ 140737488355328) (more : ByteArray) (_hm : more.size ≤ 140737488355328) (w : World) (h : Env w) (hU : UpT w) (hM : MaxL w) :
    Calls Tryd.prog 5 #[.string s, .string more] w fun e w' => e = .returned (.bool true) ∧ Below w.heap.size w w' := by
  have HU : Hid (UpT w) := hU
  have HM : Hid (MaxL w) := hM
  clear hU hM
  by_cases h1 : (500 : Int) < (s.size : Int) + (more.size : Int)
  · go_enter Tryd.func5, Tryd.ntmps5
    go_wp2_with fail
    refine (named_any _ h).mono ?_
    rintro e w1 ⟨rfl, hb1⟩
    go_wp2
    go_ret
    exact ⟨rfl, hb1⟩
  · have hsl : s.data.toList.length = s.size := Array.length_toList
    have hs5 : s.size ≤ 500 := by omega
    clear _hs _hm
    go_enter Tryd.func5, Tryd.ntmps5
    go_wp2_with fail
    refine (named_any _ h).mono ?_
    rintro e w1 ⟨rfl, hb1⟩
    have h2 := h.below hb1 (Nat.le_refl _)
    go_wp2_with fail
    refine (parse_any s (by omega) _ h2.sch).mono ?_
    rintro e w2 ⟨hb2, ⟨sec, x, p, q, n, rfl, hp⟩ | ⟨c, rfl, hp⟩⟩
    · have h3 := h2.below hb2 (Nat.le_refl _)
      have hb12 := hb1.trans (hb2.mono hb1.size)
      have HP : Hid (parseL s.data.toList = .inr (sec, x.data.toList, n, p.data.toList, q.data.toList)) := hp
      obtain ⟨sl, hl, tl, sec', y, H, ho⟩ := parse_shape hp
      have HS : Hid (Shp3 s.data.toList sl hl tl sec' ∧ originL sec' hl = some y) := ⟨H, ho⟩
      have HK : Hid (U5 w (w2.alloc (.cells #[.bool sec, .string x, .int .i64 n, .string p, .string q] 34)) w2.heap.size (.bool sec) (.string x) (.int .i64 n) (.string p) (.string q)) := u5_new h3 hb12 _ _ _ _ _ _
      obtain ⟨i, hi⟩ : ∃ i, sl.length = i + 3 := by rcases H.mark with ⟨e, _⟩ | ⟨e, _⟩ <;> exact ⟨sl.length - 3, by omega⟩
      have HI : Hid (Lib.index s.data.toList (⟨#[58, 47, 47]⟩ : ByteArray).data.toList = (i : Int)) := by
        show _ = _
        have := shape_index H
        rw [hi, Nat.add_sub_cancel] at this
        exact this
      have HLEN : Hid (s.size = i + 3 + hl.length + tl.length) := by
        show _ = _
        have := congrArg List.length H.eq
        rw [List.length_append, List.length_append, hi] at this
        omega
      have HT : Hid (sl.length = i + 3) := hi
      have hik : i + 3 ≤ s.size := by have := HLEN.out; omega
      clear h h2 h3 hb1 hb2 hb12 hp H ho hi
      go_wp2_with fail
      generalize w2.alloc (.cells #[.bool sec, .string x, .int .i64 n, .string p, .string q] 34) = W3 at HK ⊢
      refine (index_any s ⟨#[58, 47, 47]⟩ (by omega) _ (MaxL.below HM.out HK.out.bel)).mono ?_
      rintro e w3 ⟨rfl, hw⟩
      obtain rfl := hw.symm
      rw [HI.out]
      obtain ⟨r, HR⟩ : ∃ r : ByteArray, Hid (s.extract (i + 3) s.size = r) := ⟨_, rfl⟩
      have HRL : Hid (r.data.toList = hl ++ tl) := by
        show _ = _
        rw [← HR.out, from_data, HS.out.1.eq, ← HT.out, List.drop_left]
      have hrz : r.size ≤ 500 := by rw [← HR.out]; simp; omega
      have h0 : (0 : Int) ≤ (i : Int) + 3 := by omega
      have h9 : (i : Int) + 3 ≤ (s.size : Int) := by omega
      have hrx := HR.out
      obtain ⟨X, HX⟩ : ∃ X : Int, Hid ((if tl.isEmpty then -1 else (hl.length : Int)) = X) := ⟨_, rfl⟩
      go_wp2_with fail
      clear hrx
      have hasc : ∀ c ∈ hl, isEnd c = false ∧ c.toNat < 128 := fun c hc => ⟨HS.out.1.host c hc, (origin_up HS.out.2).1 c hc⟩
      refine (anyE r (by omega) hl tl HRL.out hasc HS.out.1.tail _).mono ?_
      rintro e w4 ⟨rfl, hb4⟩
      rw [HX.out]
      have HK4 : Hid (U5 w w4 w2.heap.size (.bool sec) (.string x) (.int .i64 n) (.string p) (.string q)) := HK.out.step hb4
      clear hb4 HK hasc
      go_wp2_with fail
      refine (upper_any s (by omega) _ (HU.out.below HK4.out.bel)).mono ?_
      rintro e w5 ⟨⟨u, rfl, HUP⟩, hb5⟩
      have HK5 : Hid (U5 w w5 w2.heap.size (.bool sec) (.string x) (.int .i64 n) (.string p) (.string q)) := HK4.out.step hb5
      clear hb5 HK4
      go_upto_if 38 with fail
      go_cut [8] from 39 (fun v8 wc => ∃ z : ByteArray, v8 = .string z ∧ z.size ≤ 500 ∧ Hid (parseL z.data.toList = parseL s.data.toList) ∧ Hid (U5 w wc w2.heap.size (.bool sec) (.string x) (.int .i64 n) (.string p) (.string q)))
      case first =>
        by_cases ht : tl = []
        · have hX : X = -1 := by rw [← HX.out, ht]; rfl
          have HZ : Hid (u.size ≤ 500 ∧ parseL u.data.toList = parseL s.data.toList) := by
            have e0 : s.data.toList = sl ++ hl := by rw [HS.out.1.eq, ht, List.append_nil]
            have e1 := HUP.out (by
              rw [e0]
              intro c hc
              rcases List.mem_append.1 hc with hc | hc
              · exact mark_ascii HS.out.1.mark c hc
              · exact (origin_up HS.out.2).1 c hc)
            refine ⟨?_, ?_⟩
            · have := congrArg List.length e1
              rw [List.length_map, data_len, data_len] at this
              omega
            · have := parse_up HS.out.1 HS.out.2
              rw [ht, List.append_nil, ← e0, ← e1] at this
              exact this
          subst hX
          go_wp2
          go_meet
          case rel => exact ⟨u, rfl, HZ.out.1, HZ.out.2, HK5⟩
        · have hX : X = (hl.length : Int) := by
            rw [← HX.out]
            cases tl with
            | nil => exact absurd rfl ht
            | cons => rfl
          obtain ⟨k, hk⟩ : ∃ k, k = i + 3 + hl.length := ⟨_, rfl⟩
          have hks : k ≤ s.size := by have := HLEN.out; omega
          have hki : (i : Int) + 3 + (hl.length : Int) = (k : Int) := by omega
          have HKD : Hid (s.data.toList.take k = sl ++ hl ∧ s.data.toList.drop k = tl) := by
            have e1 : k = (sl ++ hl).length := by rw [List.length_append, HT.out]; exact hk
            have e2 : s.data.toList = (sl ++ hl) ++ tl := by rw [List.append_assoc]; exact HS.out.1.eq
            exact ⟨by rw [e2, e1, List.take_left], by rw [e2, e1, List.drop_left]⟩
          obtain ⟨a, HA⟩ : ∃ a : ByteArray, Hid (s.extract 0 k = a) := ⟨_, rfl⟩
          have HAL : Hid (a.data.toList = sl ++ hl) := by show _ = _; rw [← HA.out, upto_data]; exact HKD.out.1
          have HAA : Hid (∀ c ∈ a.data.toList, c.toNat < 128) := by
            rw [HAL.out]
            intro c hc
            rcases List.mem_append.1 hc with hc | hc
            · exact mark_ascii HS.out.1.mark c hc
            · exact (origin_up HS.out.2).1 c hc
          obtain ⟨b, HB⟩ : ∃ b : ByteArray, Hid (a.data.toList.map Lib.upperB = b.data.toList) := ⟨bs (a.data.toList.map Lib.upperB), by show _ = _; rw [bs_data]⟩
          have HZ : Hid ((b ++ s.extract k s.size).size ≤ 500 ∧ parseL (b ++ s.extract k s.size).data.toList = parseL s.data.toList) := by
            have e1 : (b ++ s.extract k s.size).data.toList = (sl ++ hl).map Lib.upperB ++ tl := by
              rw [ByteArray.data_append, Array.toList_append, ← HB.out, HAL.out, from_data, HKD.out.2]
            refine ⟨?_, by rw [e1]; exact parse_up HS.out.1 HS.out.2⟩
            have := congrArg List.length e1
            rw [data_len, List.length_append, List.length_map, List.length_append, HT.out] at this
            have := HLEN.out
            omega
          have haz : (s.extract 0 k).size ≤ 5000 := by simp; omega
          subst hX
          clear hk
          have hbz : b.size ≤ 500 := by
            have := congrArg List.length HB.out
            rw [List.length_map, data_len, data_len, ← HA.out] at this
            simp at this
            omega
          have hez : (s.extract k s.size).size ≤ 500 := by simp; omega
          go_wp2_with fail
          refine (index_any s ⟨#[58, 47, 47]⟩ (by omega) _ (MaxL.below HM.out HK5.out.bel)).mono ?_
          rintro e w6 ⟨rfl, hw⟩
          obtain rfl := hw.symm
          rw [HI.out]
          have hk0 : (0 : Int) ≤ (k : Int) := by omega
          have hk1 : (k : Int) ≤ (s.size : Int) := by omega
          go_wp2_with fail
          go_region_with (go_at_call 14; refine (upper_ascii (s.extract 0 k) b haz (by rw [HA.out]; exact HAA.out) (by rw [HA.out]; exact HB.out) _).mono ?_; rintro e w7 ⟨rfl, hb7⟩; have HK7 := (HK5.out.step (Below.refl _ _).drew).step hb7)
          all_goals go_wp2
          all_goals go_meet
          all_goals exact ⟨_, rfl, HZ.out.1, HZ.out.2, HK7⟩
      case rest =>
        obtain ⟨z, rfl, hz, HPZ, HK⟩ := hcut
        clear HK5 HUP HX HRL HR HT HS HI
        go_wp2_with fail
        refine (parse_any z (by omega) _ HK.out.env.sch).mono ?_
        rintro e w6 ⟨hb6, ⟨sec2, x2, p2, q2, n2, rfl, ho2⟩ | ⟨c, rfl, ho2⟩⟩
        · rw [HPZ.out, HP.out] at ho2
          simp only [Sum.inr.injEq, Prod.mk.injEq] at ho2
          obtain ⟨rfl, hx, rfl, hp, hq⟩ := ho2
          obtain rfl := data_inj hx
          obtain rfl := data_inj hp
          obtain rfl := data_inj hq
          have HK6 := HK.out.step hb6
          have HA6 : Hid (U5 w (w6.alloc (.cells #[.bool sec, .string x, .int .i64 n, .string p, .string q] 34)) w2.heap.size (.bool sec) (.string x) (.int .i64 n) (.string p) (.string q)) := HK6.alloc _
          have HB6 : Hid (U5 w (w6.alloc (.cells #[.bool sec, .string x, .int .i64 n, .string p, .string q] 34)) w6.heap.size (.bool sec) (.string x) (.int .i64 n) (.string p) (.string q)) := u5_new HK6.env HK6.bel _ _ _ _ _ _
          clear hb6 HK HK6 hx hp hq
          go_wp2_with fail
          generalize w6.alloc (.cells #[.bool sec, .string x, .int .i64 n, .string p, .string q] 34) = W7 at HA6 HB6 ⊢
          obtain ⟨v, HV⟩ : ∃ v : ByteArray, Hid (s ++ ⟨#[35]⟩ ++ more = v) := ⟨_, rfl⟩
          have HVL : Hid (parseL v.data.toList = parseL s.data.toList) := by
            show _ = _
            have e1 : v.data.toList = s.data.toList ++ 35 :: more.data.toList := by
              rw [← HV.out, ByteArray.data_append, Array.toList_append, ByteArray.data_append, Array.toList_append, List.append_assoc]
              rfl
            rw [e1]
            exact parse_more _ _
          have hvz : v.size ≤ 900 := by
            have : v.size = s.size + 1 + more.size := by rw [← HV.out, ByteArray.size_append, ByteArray.size_append]; rfl
            omega
          rw [HV.out]
          refine (parse_any v hvz _ HA6.out.env.sch).mono ?_
          rintro e w8 ⟨hb8, ⟨sec2, x2, p2, q2, n2, rfl, ho2⟩ | ⟨c, rfl, ho2⟩⟩
          · rw [HVL.out, HP.out] at ho2
            simp only [Sum.inr.injEq, Prod.mk.injEq] at ho2
            obtain ⟨rfl, hx, rfl, hp, hq⟩ := ho2
            obtain rfl := data_inj hx
            obtain rfl := data_inj hp
            obtain rfl := data_inj hq
            have hA := (HA6.out.step hb8).alloc (.cells #[.bool sec, .string x, .int .i64 n, .string p, .string q] 34)
            have hB := (HB6.out.step hb8).alloc (.cells #[.bool sec, .string x, .int .i64 n, .string p, .string q] 34)
            have a0 := hA.c0
            have a1 := hA.c1
            have a2 := hA.c2
            have a3 := hA.c3
            have a4 := hA.c4
            have b0 := hB.c0
            have b1 := hB.c1
            have b2 := hB.c2
            have b3 := hB.c3
            have b4 := hB.c4
            have HBE : Hid (Below w.heap.size w (w8.alloc (.cells #[.bool sec, .string x, .int .i64 n, .string p, .string q] 34))) := hA.bel
            clear hA hB hb8 HA6 HB6 hx hp hq
            go_wp2
            go_ret
            exact ⟨rfl, HBE.out⟩
          · rw [HVL.out, HP.out] at ho2
            cases ho2
        · rw [HPZ.out, HP.out] at ho2
          cases ho2
    · go_wp2
      go_ret
      have hb12 := hb1.trans (hb2.mono hb1.size)
      exact ⟨rfl, hb12.alloc hb12.size _⟩
end Go.Proofs.YtpbipanafihabaaDoor
