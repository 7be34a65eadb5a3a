/- Whether a byte may be one of a word, and a text is a word, by the program. -/
import Derived.Test.YtoblpjknnchlmabGreatDoorTkD
import Derived.Test.YtoblpjknnchlmabGreatDoorIxIn
import Derived.Test.YtoblpjknnchlmabGreatDoorIb
namespace Go.Proofs.YtoblpjknnchlmabGreatDoor
open Go.RowKit

theorem tokB_small (c : UInt8) (h : 97 ≤ (c.toNat : Int) ∧ (c.toNat : Int) ≤ 122) : tokB c = true := by
  unfold tokB
  rw [decide_eq_true (show 97 ≤ c.toNat ∧ c.toNat ≤ 122 by omega)]
  rfl
theorem tokB_great (c : UInt8) (h : 65 ≤ (c.toNat : Int) ∧ (c.toNat : Int) ≤ 90) : tokB c = true := by
  unfold tokB
  rw [decide_eq_true (show 65 ≤ c.toNat ∧ c.toNat ≤ 90 by omega)]
  simp
theorem tokB_digit (c : UInt8) (h : digB c = true) : tokB c = true := by
  unfold tokB
  unfold digB at h
  rw [h]
  simp
theorem tokB_rest (c : UInt8) (h1 : ¬ (97 ≤ (c.toNat : Int) ∧ (c.toNat : Int) ≤ 122)) (h2 : ¬ (65 ≤ (c.toNat : Int) ∧ (c.toNat : Int) ≤ 90)) (h3 : digB c = false) : tokB c = tsigns.contains c := by
  unfold tokB
  unfold digB at h3
  rw [decide_eq_false (show ¬ (97 ≤ c.toNat ∧ c.toNat ≤ 122) by omega), decide_eq_false (show ¬ (65 ≤ c.toNat ∧ c.toNat ≤ 90) by omega), h3]
  rfl
def ixT (c : UInt8) : Int := ixOf tsigns c
theorem ix_tsigns (c : UInt8) (w : World) :
    Calls Tryz.prog 90 #[.string { data := #[33, 35, 36, 37, 38, 39, 42, 43, 45, 46, 94, 95, 124, 126, 96] }, .int .u8 (c.toNat : Int)] w fun e w' => e = .returned (.int .i64 (ixT c)) ∧ w' = w := ix_of _ c _ rfl w
set_option maxHeartbeats 1000000 in
theorem byte_any (c : UInt8) (w : World) : Calls Tryz.prog 57 #[.int .u8 (c.toNat : Int)] w fun e w' => e = .returned (.bool (tokB c)) ∧ w' = w := by
  by_cases h1 : 97 ≤ (c.toNat : Int) ∧ (c.toNat : Int) ≤ 122
  · rw [tokB_small c h1]
    obtain ⟨h1, h2⟩ := h1
    go_enter Tryz.func57, Tryz.ntmps57
    go_wp2
    go_ret
    exact ⟨rfl, rfl⟩
  by_cases h2 : 65 ≤ (c.toNat : Int) ∧ (c.toNat : Int) ≤ 90
  · rw [tokB_great c h2]
    obtain ⟨h2, h3⟩ := h2
    have h4 : ¬ 97 ≤ (c.toNat : Int) := by omega
    clear h1
    go_enter Tryz.func57, Tryz.ntmps57
    go_wp2
    go_ret
    exact ⟨rfl, rfl⟩
  have key : (∃ x : Bool, digB c = true ∧ tokB c = true) ∨ (digB c = false ∧ tokB c = tsigns.contains c) := by
    cases h3 : digB c
    · exact .inr ⟨rfl, tokB_rest c h1 h2 h3⟩
    · exact .inl ⟨true, rfl, tokB_digit c h3⟩
  rcases key with ⟨_, hd, ht⟩ | ⟨hd, ht⟩
  · rw [ht]
    clear ht
    by_cases a1 : 97 ≤ (c.toNat : Int)
    · have a2 : ¬ (c.toNat : Int) ≤ 122 := by omega
      have a3 : 65 ≤ (c.toNat : Int) := by omega
      have a4 : ¬ (c.toNat : Int) ≤ 90 := by omega
      clear h1 h2
      go_enter Tryz.func57, Tryz.ntmps57
      go_wp2_with (go_at_call 71; refine (tdigit_any c _).mono ?_; rintro e w' ⟨rfl, rfl⟩; rw [hd])
      go_ret
      exact ⟨rfl, rfl⟩
    · by_cases a3 : 65 ≤ (c.toNat : Int)
      · have a4 : ¬ (c.toNat : Int) ≤ 90 := by omega
        clear h1 h2
        go_enter Tryz.func57, Tryz.ntmps57
        go_wp2_with (go_at_call 71; refine (tdigit_any c _).mono ?_; rintro e w' ⟨rfl, rfl⟩; rw [hd])
        go_ret
        exact ⟨rfl, rfl⟩
      · clear h1 h2
        go_enter Tryz.func57, Tryz.ntmps57
        go_wp2_with (go_at_call 71; refine (tdigit_any c _).mono ?_; rintro e w' ⟨rfl, rfl⟩; rw [hd])
        go_ret
        exact ⟨rfl, rfl⟩
  · obtain ⟨x, hx, hx2⟩ : ∃ x : Int, ixT c = x ∧ Hid (tokB c = decide (0 ≤ x)) := by
      refine ⟨_, rfl, ?_⟩
      show _ = _
      rw [ht]
      unfold ixT
      rcases ixOf_in tsigns c with ⟨e1, e2⟩ | ⟨n, _, e1, e2⟩
      · rw [e1, e2]; rfl
      · rw [e1, e2]; simp
    clear ht
    rw [hx2.out]
    by_cases a1 : 97 ≤ (c.toNat : Int)
    · have a2 : ¬ (c.toNat : Int) ≤ 122 := by omega
      have a3 : 65 ≤ (c.toNat : Int) := by omega
      have a4 : ¬ (c.toNat : Int) ≤ 90 := by omega
      clear h1 h2
      go_enter Tryz.func57, Tryz.ntmps57
      go_wp2_with (first | (go_at_call 71; refine (tdigit_any c _).mono ?_; rintro e w' ⟨rfl, rfl⟩; rw [hd]) | (go_at_call 90; refine (ix_tsigns c _).mono ?_; rintro e w' ⟨rfl, rfl⟩; rw [hx]))
      go_ret
      exact ⟨rfl, rfl⟩
    · by_cases a3 : 65 ≤ (c.toNat : Int)
      · have a4 : ¬ (c.toNat : Int) ≤ 90 := by omega
        clear h1 h2
        go_enter Tryz.func57, Tryz.ntmps57
        go_wp2_with (first | (go_at_call 71; refine (tdigit_any c _).mono ?_; rintro e w' ⟨rfl, rfl⟩; rw [hd]) | (go_at_call 90; refine (ix_tsigns c _).mono ?_; rintro e w' ⟨rfl, rfl⟩; rw [hx]))
        go_ret
        exact ⟨rfl, rfl⟩
      · clear h1 h2
        go_enter Tryz.func57, Tryz.ntmps57
        go_wp2_with (first | (go_at_call 71; refine (tdigit_any c _).mono ?_; rintro e w' ⟨rfl, rfl⟩; rw [hd]) | (go_at_call 90; refine (ix_tsigns c _).mono ?_; rintro e w' ⟨rfl, rfl⟩; rw [hx]))
        go_ret
        exact ⟨rfl, rfl⟩
theorem kind_byte : Kind 57 tokB := ⟨byte_any, enters_at Tryz.func57 (by kernel_rfl) rfl⟩
theorem isL_empty (s : ByteArray) (h : s.size = 0) : isL s.data.toList = false := by
  have : s.data.toList = [] := by
    apply List.eq_nil_of_length_eq_zero
    simpa using h
  rw [this]
  rfl
theorem isL_run (s : ByteArray) (h : 0 < s.size) : isL s.data.toList = decide ((runL tokB s.data.toList : Int) = (s.size : Int)) := by
  unfold isL
  have h1 : s.data.toList.isEmpty = false := by
    cases e : s.data.toList with
    | nil =>
      have h5 : s.data.toList.length = s.size := Array.length_toList
      rw [e] at h5
      simp only [List.length_nil] at h5
      omega
    | cons c t => rfl
  have h2 := runL_all tokB s.data.toList
  have h3 : s.data.toList.length = s.size := Array.length_toList
  rw [h1, Bool.eq_iff_iff]
  simp only [Bool.not_false, Bool.true_and, decide_eq_true_eq]
  rw [← h2, h3]
  omega
theorem u8_is {c : UInt8} {n : Nat} (hn : n < 256) : (c.toNat : Int) = n ↔ c = UInt8.ofNat n := by
  constructor
  · intro h
    apply UInt8.toNat_inj.1
    simp only [UInt8.toNat_ofNat']
    omega
  · rintro rfl
    simp only [UInt8.toNat_ofNat']
    omega

end Go.Proofs.YtoblpjknnchlmabGreatDoor
