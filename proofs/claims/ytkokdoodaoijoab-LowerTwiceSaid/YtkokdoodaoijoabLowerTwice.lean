/- Made small twice is made small once; as long; of two texts each its own; and no great letter is left: the law LowerTwice returns true at every two texts. -/
import Derived.Test.YtkokdoodaoijoabCoded
import Derived.Test.YtkokdoodaoijoabAnyAz
namespace Go.Proofs.Ytkokdoodaoijoab
open Go.RowKit

theorem low_free (c : UInt8) : ¬ (65 ≤ (low c).toNat ∧ (low c).toNat ≤ 90) := by
  have : ∀ c : Fin 256, ¬ (65 ≤ (low (UInt8.ofNat c.val)).toNat ∧ (low (UInt8.ofNat c.val)).toNat ≤ 90) := by decide +kernel
  have h := this ⟨c.toNat, c.toNat_lt⟩
  simpa using h
theorem low_low (c : UInt8) : low (low c) = low c := by
  have : ∀ c : Fin 256, low (low (UInt8.ofNat c.val)) = low (UInt8.ofNat c.val) := by decide +kernel
  have h := this ⟨c.toNat, c.toNat_lt⟩
  simpa using h
theorem lower_o (s : ByteArray) (w : World) (hs : s.size ≤ 1000) :
    Calls Try.prog 11 #[.string s] w fun e w' => ∃ o : ByteArray, e = .returned (.string o) ∧ o.size = s.size ∧ Hid (o = bs (s.data.toList.map low)) ∧ Below w.heap.size w w' := by
  refine (lower_any s w hs).mono ?_
  rintro e w' ⟨rfl, hb⟩
  exact ⟨_, rfl, by rw [bs_size]; simp, rfl, hb⟩
theorem lower_again (s o : ByteArray) (ho : o = bs (s.data.toList.map low)) (hs : s.size ≤ 1000) (w : World) :
    Calls Try.prog 11 #[.string o] w fun e w' => e = .returned (.string o) ∧ Below w.heap.size w w' := by
  have hz : o.size ≤ 1000 := by rw [ho, bs_size]; simpa using hs
  refine (lower_any o w hz).mono ?_
  rintro e w' ⟨rfl, hb⟩
  refine ⟨?_, hb⟩
  have : bs (o.data.toList.map low) = o := by
    rw [ho]
    show bs ((s.data.toList.map low).map low) = _
    rw [List.map_map]
    congr 1
    apply List.map_congr_left
    intro c _
    exact low_low c
  rw [this]

set_option maxRecDepth 100000 in
set_option maxHeartbeats 800000 in
theorem lowerTwice_walk (s : ByteArray) (hs : s.size ≤ 140737488355328) (t : ByteArray) (ht : t.size ≤ 140737488355328) (w : World) :
    Calls Try.prog 6 #[.string s, .string t] w fun e w' => e = .returned (.bool true) ∧ Below w.heap.size w w' := by
  by_cases h : (400 : Int) < (s.size : Int) + (t.size : Int)
  · go_enter Try.func6, Try.ntmps6
    go_wp2_with (go_at_call 7; refine (coded_any _).mono ?_; rintro e w1 ⟨rfl, hb1⟩)
    go_ret
    exact ⟨rfl, hb1⟩
  · have hs4 : s.size ≤ 400 := by omega
    have ht4 : t.size ≤ 400 := by omega
    clear hs ht
    go_enter Try.func6, Try.ntmps6
    go_wp2_with (go_at_call 7; refine (coded_any _).mono ?_; rintro e w1 ⟨rfl, hb1⟩)
    refine (lower_o s _ (by omega)).mono ?_
    rintro e w2 ⟨l, rfl, hlz, HL, hb2⟩
    have hlz2 : (l.size : Int) = (s.size : Int) := by omega
    go_wp2_with fail
    refine (lower_again s l HL.out (by omega) _).mono ?_
    rintro e w3 ⟨rfl, hb3⟩
    go_wp2_with fail
    have hl4 : l.size ≤ 400 := by omega
    clear hlz2 hlz
    refine (lower_o (s ++ t) _ (by simp; omega)).mono ?_
    rintro e w4 ⟨x, rfl, hxz, HX, hb4⟩
    clear hxz
    go_wp2_with fail
    refine (lower_o t _ (by omega)).mono ?_
    rintro e w5 ⟨y, rfl, hyz, HY, hb5⟩
    have hyz2 : y.size ≤ 400 := by omega
    clear hyz
    have e : x = l ++ y := by
      rw [HX.out, HL.out, HY.out, ← bs_append, ← List.map_append]
      simp
    subst e
    have HF : Hid (∀ c ∈ l.data.toList, ¬ (65 ≤ c.toNat ∧ c.toNat ≤ 90)) := by
      intro c hc
      rw [HL.out] at hc
      obtain ⟨d, _, rfl⟩ := List.mem_map.1 (show c ∈ s.data.toList.map low from hc)
      exact low_free d
    clear HX HY HL
    go_wp2_with fail
    refine (contains_none l (by omega) HF.out _).mono ?_
    rintro e w6 ⟨rfl, hb6⟩
    go_wp2
    go_ret
    refine ⟨by simp, ?_⟩
    have s1 := hb1.size
    have s2 := hb2.size
    have s3 := hb3.size
    have s4 := hb4.size
    have s5 := hb5.size
    exact ((((hb1.trans (hb2.mono (by omega))).trans (hb3.mono (by omega))).trans (hb4.mono (by omega))).trans (hb5.mono (by omega))).trans (hb6.mono (by omega))
end Go.Proofs.Ytkokdoodaoijoab
