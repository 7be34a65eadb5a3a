/- The walk of the law SumShape: so many digits of each sum, small ones, which are read again. -/
import Derived.Test.YtmplegnhpanijaaDoorSha
import Derived.Test.YtmplegnhpanijaaDoorCoded
namespace Go.Proofs.YtmplegnhpanijaaDoor
open Go.RowKit

theorem md5L_length (l : List UInt8) : (md5L l).length = 16 := by
  unfold md5L
  generalize md5Blocks _ _ = v
  simp [Four.bytes, le4]
theorem shaL_length (l : List UInt8) : (shaL l).length = 32 := by
  unfold shaL
  obtain ⟨a, b, c, d, e, f, g, h, hx⟩ := eight (shaBlocks_length (padL false l) ((l.length + 72) / 64))
  rw [hx]
  simp [be4]
theorem md5_text : bs (hexL (md5L ({ data := #[97, 98, 99] } : ByteArray).data.toList)) = { data := #[57, 48, 48, 49, 53, 48, 57, 56, 51, 99, 100, 50, 52, 102, 98, 48, 100, 54, 57, 54, 51, 102, 55, 100, 50, 56, 101, 49, 55, 102, 55, 50] } := by
  have e : ({ data := #[97, 98, 99] } : ByteArray).data.toList = [97, 98, 99] := rfl
  rw [e, md5_abc]
  rfl
theorem sha_text : bs (hexL (shaL ({ data := #[97, 98, 99] } : ByteArray).data.toList)) = { data := #[98, 97, 55, 56, 49, 54, 98, 102, 56, 102, 48, 49, 99, 102, 101, 97, 52, 49, 52, 49, 52, 48, 100, 101, 53, 100, 97, 101, 50, 50, 50, 51, 98, 48, 48, 51, 54, 49, 97, 51, 57, 54, 49, 55, 55, 97, 57, 99, 98, 52, 49, 48, 102, 102, 54, 49, 102, 50, 48, 48, 49, 53, 97, 100] } := by
  have e : ({ data := #[97, 98, 99] } : ByteArray).data.toList = [97, 98, 99] := rfl
  rw [e, sha_abc]
  rfl
set_option maxHeartbeats 800000 in
theorem summed_any (w : World) (HS : Hid (Sines w)) (HT : Hid (Turns w)) (HB : Hid (Begin w)) (HR : Hid (Roots w)) :
    Calls Tryd.prog 4 #[] w fun e w' => e = .returned (.bool true) ∧ Below w.heap.size w w' := by
  have h1 := md5_any { data := #[97, 98, 99] } (by decide) w HS HT
  have h2 := sha_any { data := #[97, 98, 99] } (by decide)
  rw [md5_text] at h1
  rw [sha_text] at h2
  go_enter Tryd.func4, Tryd.ntmps4
  go_wp2_with fail
  refine h1.mono ?_
  rintro e w1 ⟨rfl, hb1⟩
  go_wp2_with fail
  refine (h2 w1 (HB.out.below hb1) (HR.out.below hb1)).mono ?_
  rintro e w2 ⟨rfl, hb2⟩
  go_wp2
  go_ret
  exact ⟨rfl, hb1.trans (hb2.mono hb1.size)⟩
set_option maxHeartbeats 1600000 in
theorem sumShape_walk (s : ByteArray) (w : World) (HS : Hid (Sines w)) (HT : Hid (Turns w)) (HB : Hid (Begin w)) (HR : Hid (Roots w)) :
    Calls Tryd.prog 3 #[.string s] w fun e w' => e = .returned (.bool true) ∧ Below w.heap.size w w' := by
  by_cases h : (400 : Int) < (s.size : Int)
  · go_enter Tryd.func3, Tryd.ntmps3
    go_wp2_with fail
    refine (summed_any _ HS HT HB HR).mono ?_
    rintro e w1 ⟨rfl, hb1⟩
    go_wp2_with fail
    refine (coded_any _).mono ?_
    rintro e w2 ⟨rfl, hb2⟩
    go_wp2
    go_ret
    exact ⟨rfl, hb1.trans (hb2.mono hb1.size)⟩
  · have h3 : s.size ≤ 1000 := by omega
    have hp := fun w' a b => md5_any s h3 w' a b
    have hq := fun w' a b => sha_any s h3 w' a b
    have hu := fun w' => unhex_of (bs (hexL (md5L s.data.toList))) (md5L s.data.toList) (bs (md5L s.data.toList)) (bs_data _).symm rfl w' (by rw [bs_size, hexL_length, md5L_length]; decide)
    have hv := fun w' => unhex_of (bs (hexL (shaL s.data.toList))) (shaL s.data.toList) (bs (shaL s.data.toList)) (bs_data _).symm rfl w' (by rw [bs_size, hexL_length, shaL_length]; decide)
    have za : (bs (hexL (md5L s.data.toList))).size = 32 := by rw [bs_size, hexL_length, md5L_length]
    have zb : (bs (hexL (shaL s.data.toList))).size = 64 := by rw [bs_size, hexL_length, shaL_length]
    generalize bs (hexL (md5L s.data.toList)) = A at hp hu za
    generalize bs (hexL (shaL s.data.toList)) = B at hq hv zb
    generalize bs (md5L s.data.toList) = C at hu
    generalize bs (shaL s.data.toList) = D at hv
    go_enter Tryd.func3, Tryd.ntmps3
    go_wp2_with fail
    refine (summed_any _ HS HT HB HR).mono ?_
    rintro e w1 ⟨rfl, hb1⟩
    go_wp2_with fail
    refine (coded_any _).mono ?_
    rintro e w2 ⟨rfl, hb2⟩
    have hb12 : Below w.heap.size w w2 := hb1.trans (hb2.mono hb1.size)
    go_wp2_with (first
      | (go_at_call 6; refine (hp _ (HS.out.below hb12) (HT.out.below hb12)).mono ?_; rintro e w3 ⟨rfl, hb3⟩; have hb13 : Below w.heap.size w w3 := hb12.trans (hb3.mono hb12.size))
      | (go_at_call 7; refine (hq _ (HB.out.below hb13) (HR.out.below hb13)).mono ?_; rintro e w4 ⟨rfl, hb4⟩; have hb14 : Below w.heap.size w w4 := hb13.trans (hb4.mono hb13.size))
      | (go_at_call_of 8 (Value.string A); refine (hu _).mono ?_; rintro e w5 ⟨rfl, hb5⟩; have hb15 : Below w.heap.size w w5 := hb14.trans (hb5.mono hb14.size))
      | (go_at_call_of 8 (Value.string B); refine (hv _).mono ?_; rintro e w6 ⟨rfl, hb6⟩; have hb16 : Below w.heap.size w w6 := hb15.trans (hb6.mono hb15.size)))
    go_ret
    exact ⟨by simp, hb16⟩
end Go.Proofs.YtmplegnhpanijaaDoor
