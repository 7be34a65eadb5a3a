/- The law BasicBack, walked. -/
import Derived.Test.YthhbfnfgbonakaaDoorPrvd
import Derived.Test.YthhbfnfgbonakaaDoorCoded
import Derived.Test.YthhbfnfgbonakaaDoorCut1
import Derived.Test.YthhbfnfgbonakaaDoorArgK
namespace Go.Proofs.YthhbfnfgbonakaaDoor
open Go.RowKit

theorem cut_cred (u p : List UInt8) (h : 58 ∉ u) : cutL 58 (credL u p) = (u, p, true) := cutL_some 58 p u h
set_option maxHeartbeats 1000000 in
theorem trimB_any (x : ByteArray) (hx : x.size ≤ 4000) (w : World) :
    Calls Tryd.prog 12 #[.string (bs (basW ++ x.data.toList)), .string ⟨#[66, 97, 115, 105, 99, 32]⟩] w fun e w' => e = .returned (.string x) ∧ w' = w := by
  have hz : (bs (basW ++ x.data.toList)).size = x.size + 6 := by rw [bs_size, List.length_append]; have : x.data.toList.length = x.size := Array.length_toList; simp [basW]; omega
  have h1 : ((bs (basW ++ x.data.toList)).extract 0 6).toList = [66, 97, 115, 105, 99, 32] := by
    rw [ByteArray.toList_eq]
    simp [bs, basW]
  have h2 : (bs (basW ++ x.data.toList)).extract 6 (x.size + 6) = x := by
    apply ByteArray.ext
    apply Array.ext'
    simp [bs, basW]
    exact List.take_of_length_le (by rw [Array.length_toList]; exact Nat.le_refl _)
  generalize bs (basW ++ x.data.toList) = B at *
  have q : ((B.extract 0 6).toList == [66, 97, 115, 105, 99, 32]) = true := by rw [h1]; rfl
  have hb6 : (6 : Int) ≤ (B.size : Int) := by omega
  have H2 : Hid (B.extract 6 (x.size + 6) = x) := h2
  clear h1 h2
  go_enter Tryd.func12, Tryd.ntmps12
  go_wp2
  go_ret
  refine ⟨?_, rfl⟩
  show Ending.returned (.string (B.extract 6 (x.size + 6))) = _
  rw [H2.out]
set_option maxRecDepth 100000 in
set_option maxHeartbeats 2000000 in
theorem basicBack_walk (u p : ByteArray) (zc : CredZ u p) (w : World) (HT : Hid (Tabs w)) :
    Calls Tryd.prog 4 #[.agg #[.string u, .string p]] w fun e w' => e = .returned (.bool true) ∧ Below w.heap.size w w' := by
  obtain ⟨zu, zp⟩ := zc
  have hA : Below w.heap.size w (w.alloc (.cells #[.string u, .string p] 25)) := (Below.refl _ _).alloc (Nat.le_refl _) _
  have hz0 : (w.alloc (.cells #[.string u, .string p] 25)).heap.size = w.heap.size + 1 := by simp
  have HC : Hid (∀ i, (w.alloc (.cells #[.string u, .string p] 25)).cell? ⟨w.heap.size, i, none⟩ = #[.string u, .string p][i]?) := fun i => World.cell?_alloc_mark _ _ _ _ _
  have HT0 : Hid (Tabs (w.alloc (.cells #[.string u, .string p] 25))) := HT.out.below hA
  go_enter Tryd.func4, Tryd.ntmps4
  go_wp2_with fail
  generalize w.alloc (.cells #[.string u, .string p] 25) = W0 at hA hz0 HC HT0 ⊢
  have HK : Hid (∀ W, Below W0.heap.size W0 W → W.cell? ⟨w.heap.size, 0, none⟩ = some (.string u) ∧ W.cell? ⟨w.heap.size, 1, none⟩ = some (.string p)) := fun W hb => by
    rw [hb.cell (p := ⟨w.heap.size, 0, none⟩) (by show w.heap.size < _; omega), hb.cell (p := ⟨w.heap.size, 1, none⟩) (by show w.heap.size < _; omega), HC.out 0, HC.out 1]
    exact ⟨rfl, rfl⟩
  refine (proved_any _ HT0).mono ?_
  rintro e w1 ⟨rfl, hb1⟩
  have HB1 : Hid (Below W0.heap.size W0 w1) := hb1
  clear hb1
  go_wp2_with fail
  refine (coded_any _).mono ?_
  rintro e w2 ⟨rfl, hb2⟩
  have HB2 : Hid (Below W0.heap.size W0 w2) := HB1.out.trans (hb2.mono HB1.out.size)
  clear hb2
  obtain ⟨k0, k1⟩ := HK.out w2 HB2.out
  by_cases h300 : u.size + p.size ≤ 300
  · have hi : ¬ (300 : Int) < (u.size : Int) + (p.size : Int) := by omega
    go_wp2_with fail
    refine (basic_any u p (by omega) _).mono ?_
    rintro e w3 ⟨ha, hb3⟩
    have HB3 : Hid (Below W0.heap.size W0 w3) := HB2.out.trans (hb3.mono HB2.out.size)
    clear hb3 k0 k1
    obtain ⟨k0, k1⟩ := HK.out w3 HB3.out
    unfold BasAns at ha
    rcases hbo : basO u.data.toList p.data.toList with n | t
    · rw [hbo] at ha
      subst ha
      go_wp2
      go_ret
      exact ⟨rfl, hA.trans (HB3.out.mono hA.size)⟩
    · rw [hbo] at ha
      subst ha
      have HO : Hid (58 ∉ u.data.toList ∧ t = basW ++ enc (credL u.data.toList p.data.toList)) := by
        unfold basO at hbo
        split at hbo
        · cases hbo
        · rename_i h0
          split at hbo
          · cases hbo
          · cases hbo; exact ⟨h0, rfl⟩
      clear hbo
      have hl : (credL u.data.toList p.data.toList).length ≤ 301 := by
        have e1 : u.data.toList.length = u.size := Array.length_toList
        have e2 : p.data.toList.length = p.size := Array.length_toList
        unfold credL
        rw [List.length_append, List.length_cons]
        omega
      have hez : (bs (enc (credL u.data.toList p.data.toList))).size ≤ 900 := by rw [bs_size, enc_length]; omega
      have hcz : (bs (credL u.data.toList p.data.toList)).size ≤ 301 := by rw [bs_size]; exact hl
      have ht := fun w => trimB_any (bs (enc (credL u.data.toList p.data.toList))) (by omega) w
      rw [bs_data, ← HO.out.2] at ht
      have hu := fun w => unbase_of (bs (enc (credL u.data.toList p.data.toList))) (credL u.data.toList p.data.toList) (bs (credL u.data.toList p.data.toList)) (bs_data _).symm rfl w (by omega)
      have hcut := fun w => cut_any (bs (credL u.data.toList p.data.toList)) 58 (by omega) w
      rw [bs_data, cut_cred _ _ HO.out.1] at hcut
      generalize bs (enc (credL u.data.toList p.data.toList)) = E at ht hu hez
      generalize bs (credL u.data.toList p.data.toList) = C at hu hcut hcz
      generalize bs t = T at ht ⊢
      go_wp2_with fail
      refine (ht _).mono ?_
      rintro e w' ⟨rfl, rfl⟩
      go_wp2_with fail
      refine (hu _).mono ?_
      rintro e w4 ⟨rfl, hb4⟩
      have HB4 : Hid (Below W0.heap.size W0 w4) := HB3.out.trans (hb4.mono HB3.out.size)
      clear hb4 k0 k1
      go_wp2_with fail
      refine (hcut _).mono ?_
      rintro e w5 ⟨x, y, f, rfl, _, _, HX, hb5⟩
      have HB5 : Hid (Below W0.heap.size W0 w5) := HB4.out.trans (hb5.mono HB4.out.size)
      clear hb5
      obtain ⟨k0, k1⟩ := HK.out w5 HB5.out
      have hxe : x = u := by have h := HX.out; injection h with h1 h2; rw [← bs_self x, ← h1, bs_self]
      have hye : y = p := by have h := HX.out; injection h with h1 h2; injection h2 with h2 h3; rw [← bs_self y, ← h2, bs_self]
      have hfe : f = true := by have h := HX.out; injection h with h1 h2; injection h2 with h2 h3; exact h3.symm
      subst hxe hye hfe
      go_wp2
      go_ret
      exact ⟨by first | rfl | simp, hA.trans (HB5.out.mono hA.size)⟩
  · have hi : (300 : Int) < (u.size : Int) + (p.size : Int) := by omega
    go_wp2
    go_ret
    exact ⟨rfl, hA.trans (HB2.out.mono hA.size)⟩
end Go.Proofs.YthhbfnfgbonakaaDoor
