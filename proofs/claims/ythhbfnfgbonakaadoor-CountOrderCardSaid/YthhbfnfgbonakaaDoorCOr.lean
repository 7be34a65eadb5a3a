/- The law CountOrder, walked. -/
import Derived.Test.YthhbfnfgbonakaaDoorPrvd
import Derived.Test.YthhbfnfgbonakaaDoorPick
namespace Go.Proofs.YthhbfnfgbonakaaDoor
open Go.RowKit

theorem beq_iff_dec (p q : Prop) [Decidable p] [Decidable q] (h : p ↔ q) : (decide p == decide q) = true := by
  have : decide p = decide q := by rw [decide_eq_decide]; exact h
  rw [this]
  simp
set_option maxRecDepth 100000 in
set_option maxHeartbeats 2000000 in
theorem countOrder_walk (a : Int) (ha : -9223372036854775808 ≤ a) (ha2 : a ≤ 9223372036854775807) (b : Int) (hb : -9223372036854775808 ≤ b) (hb2 : b ≤ 9223372036854775807) (w : World) (HT : Hid (Tabs w)) :
    Calls Tryd.prog 5 #[.int .i64 a, .int .i64 b] w fun e w' => e = .returned (.bool true) ∧ Below w.heap.size w w' := by
  have hp1 := fun w => pick_any a 4294967296 ha ha2 (by omega) (by omega) w
  have hp2 := fun w => pick_any b 4294967296 hb hb2 (by omega) (by omega) w
  obtain ⟨m, hm⟩ := Int.eq_ofNat_of_zero_le (pickI_in a 4294967296 (by omega)).1
  obtain ⟨k, hk⟩ := Int.eq_ofNat_of_zero_le (pickI_in b 4294967296 (by omega)).1
  have hm2 : m < 4294967296 := by have := (pickI_in a 4294967296 (by omega)).2; omega
  have hk2 : k < 4294967296 := by have := (pickI_in b 4294967296 (by omega)).2; omega
  rw [hm] at hp1
  rw [hk] at hp2
  clear hm hk
  have hc1 := fun w HD => count_any m (by omega) w HD
  have hc2 := fun w HD => count_any k (by omega) w HD
  obtain ⟨ho1, ho2⟩ := countL_ord m k hm2 hk2
  have hs1 : (bs (countL m)).size = 8 := by rw [bs_size, countL_eight m hm2]
  have hs2 : (bs (countL k)).size = 8 := by rw [bs_size, countL_eight k hk2]
  have hl : Op.bytesLess (bs (countL m)).toList (bs (countL k)).toList = decide ((m : Int) < (k : Int)) := by
    rw [ByteArray.toList_eq, ByteArray.toList_eq, bs_data, bs_data, ho2]
    rw [decide_eq_decide]; omega
  have he : ((bs (countL m)).toList == (bs (countL k)).toList) = ((m : Int) == (k : Int)) := by
    rw [ByteArray.toList_eq, ByteArray.toList_eq, bs_data, bs_data, ho1]
    rw [Bool.eq_iff_iff]
    simp
    omega
  clear ho1 ho2
  generalize bs (countL m) = A at *
  generalize bs (countL k) = B at *
  go_enter Tryd.func5, Tryd.ntmps5
  go_wp2_with fail
  refine (proved_any _ HT).mono ?_
  rintro e w1 ⟨rfl, hb1⟩
  have HT1 : Hid (Tabs w1) := HT.out.below hb1
  go_wp2_with fail
  refine (hp1 _).mono ?_
  rintro e w' ⟨rfl, rfl⟩
  go_wp2_with fail
  refine (hp2 _).mono ?_
  rintro e w' ⟨rfl, rfl⟩
  go_wp2_with fail
  refine (hc1 _ HT1.out.bruijn).mono ?_
  rintro e w2 ⟨rfl, hb2⟩
  have HT2 : Hid (Tabs w2) := HT1.out.below hb2
  go_wp2_with fail
  refine (hc2 _ HT2.out.bruijn).mono ?_
  rintro e w3 ⟨rfl, hb3⟩
  go_wp2
  go_ret
  refine ⟨by first | rfl | simp, ?_⟩
  have h12 := hb1.trans (hb2.mono hb1.size)
  exact h12.trans (hb3.mono h12.size)
end Go.Proofs.YthhbfnfgbonakaaDoor
