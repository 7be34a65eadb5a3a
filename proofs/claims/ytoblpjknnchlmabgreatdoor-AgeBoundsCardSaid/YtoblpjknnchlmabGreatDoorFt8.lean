/- What may be sent without asking, byte by byte, by the program. -/
import Derived.Test.YtoblpjknnchlmabGreatDoorKnd
import Derived.Test.YtoblpjknnchlmabGreatDoorIxIn
import Derived.Test.YtoblpjknnchlmabGreatDoorIb
namespace Go.Proofs.YtoblpjknnchlmabGreatDoor
open Go.RowKit

def forbS : List UInt8 := [34, 40, 41, 58, 60, 62, 63, 64, 91, 92, 93, 123, 125]
def tongS : List UInt8 := [32, 42, 44, 45, 46, 59, 61]
/-- A byte that may be in what is accepted. -/
def safeB (c : UInt8) : Bool := textB c && !forbS.contains c
def alnB (c : UInt8) : Bool := decide (97 ≤ c.toNat ∧ c.toNat ≤ 122) || (decide (65 ≤ c.toNat ∧ c.toNat ≤ 90) || decide (48 ≤ c.toNat ∧ c.toNat ≤ 57))
/-- A byte that may be in a list of languages. -/
def tongB (c : UInt8) : Bool := alnB c || tongS.contains c
theorem ix_forbS (c : UInt8) (w : World) :
    Calls Tryz.prog 90 #[.string { data := #[34, 40, 41, 58, 60, 62, 63, 64, 91, 92, 93, 123, 125] }, .int .u8 (c.toNat : Int)] w fun e w' => (∃ x : Int, e = .returned (.int .i64 x) ∧ Hid (forbS.contains c = !decide (x < 0))) ∧ w' = w := by
  refine (ix_of _ c _ rfl w).mono ?_
  rintro e w' ⟨rfl, rfl⟩
  refine ⟨⟨_, rfl, ?_⟩, rfl⟩
  show forbS.contains c = !decide (ixOf forbS c < 0)
  rcases ixOf_in forbS c with ⟨e1, e2⟩ | ⟨n, _, e1, e2⟩
  · rw [e1, e2]; rfl
  · rw [e1, e2]; simp
theorem ix_tongS (c : UInt8) (w : World) :
    Calls Tryz.prog 90 #[.string { data := #[32, 42, 44, 45, 46, 59, 61] }, .int .u8 (c.toNat : Int)] w fun e w' => (∃ x : Int, e = .returned (.int .i64 x) ∧ Hid (tongS.contains c = decide (0 ≤ x))) ∧ w' = w := by
  refine (ix_of _ c _ rfl w).mono ?_
  rintro e w' ⟨rfl, rfl⟩
  refine ⟨⟨_, rfl, ?_⟩, rfl⟩
  show tongS.contains c = decide (0 ≤ ixOf tongS c)
  rcases ixOf_in tongS c with ⟨e1, e2⟩ | ⟨n, _, e1, e2⟩
  · rw [e1, e2]; rfl
  · rw [e1, e2]; simp
theorem textB_of (c : UInt8) : textB c = (((c.toNat : Int) == 9) || (decide (32 ≤ (c.toNat : Int)) && !((c.toNat : Int) == 127))) := by
  have : ∀ n : Fin 256, textB (UInt8.ofNat n.1) = ((((UInt8.ofNat n.1).toNat : Int) == 9) || (decide (32 ≤ ((UInt8.ofNat n.1).toNat : Int)) && !(((UInt8.ofNat n.1).toNat : Int) == 127))) := by decide +kernel
  have h := this ⟨c.toNat, c.toNat_lt⟩
  simpa using h
set_option maxHeartbeats 1000000 in
theorem safe_any (c : UInt8) (w : World) : Calls Tryz.prog 105 #[.int .u8 (c.toNat : Int)] w fun e w' => e = .returned (.bool (safeB c)) ∧ w' = w := by
  have hcl : (c.toNat : Int) < 256 := by have := c.toNat_lt; omega
  have HT : Hid (textB c = (((c.toNat : Int) == 9) || (decide (32 ≤ (c.toNat : Int)) && !((c.toNat : Int) == 127)))) := textB_of c
  by_cases h1 : 32 ≤ (c.toNat : Int)
  · by_cases h2 : (c.toNat : Int) = 127
    · have HS : Hid (safeB c = false) := by
        show _ = _
        unfold safeB
        rw [HT.out, h2, decide_eq_true (by decide)]
        rfl
      go_enter Tryz.func105, Tryz.ntmps105
      go_wp2
      go_ret
      exact ⟨ret_bool (by rw [HS.out]), rfl⟩
    · have HS : Hid (safeB c = !forbS.contains c) := by
        show _ = _
        unfold safeB
        rw [HT.out, beq_eq_false_iff_ne.2 h2, decide_eq_true h1]
        simp
      go_enter Tryz.func105, Tryz.ntmps105
      go_wp2_with (go_at_call 90; refine (ix_forbS c _).mono ?_; rintro e w' ⟨⟨x, rfl, HX⟩, rfl⟩)
      go_ret
      exact ⟨ret_bool (by rw [HS.out, HX.out]; simp [h2]), rfl⟩
  · cases h2 : ((c.toNat : Int) == 9)
    · have HS : Hid (safeB c = false) := by
        show _ = _
        unfold safeB
        rw [HT.out, h2, decide_eq_false h1]
        rfl
      go_enter Tryz.func105, Tryz.ntmps105
      go_wp2
      go_ret
      exact ⟨ret_bool (by rw [HS.out]), rfl⟩
    · have HS : Hid (safeB c = !forbS.contains c) := by
        show _ = _
        unfold safeB
        rw [HT.out, h2]
        simp
      have h3 : ¬ (c.toNat : Int) = 127 := by omega
      go_enter Tryz.func105, Tryz.ntmps105
      go_wp2_with (go_at_call 90; refine (ix_forbS c _).mono ?_; rintro e w' ⟨⟨x, rfl, HX⟩, rfl⟩)
      go_ret
      exact ⟨ret_bool (by rw [HS.out, HX.out]; simp [h3]), rfl⟩
theorem kind_safe : Kind 105 safeB := ⟨safe_any, enters_at Tryz.func105 (by kernel_rfl) rfl⟩
set_option maxHeartbeats 1000000 in
theorem tong_any (c : UInt8) (w : World) : Calls Tryz.prog 106 #[.int .u8 (c.toNat : Int)] w fun e w' => e = .returned (.bool (tongB c)) ∧ w' = w := by
  have hcl : (c.toNat : Int) < 256 := by have := c.toNat_lt; omega
  by_cases h1 : 97 ≤ (c.toNat : Int)
  · by_cases h2 : (c.toNat : Int) ≤ 122
    · have HS : Hid (tongB c = true) := by
        show _ = _
        unfold tongB alnB
        rw [decide_eq_true (show 97 ≤ c.toNat ∧ c.toNat ≤ 122 by omega)]
        rfl
      go_enter Tryz.func106, Tryz.ntmps106
      go_wp2
      go_ret
      exact ⟨ret_bool (by rw [HS.out]), rfl⟩
    · have HS : Hid (tongB c = tongS.contains c) := by
        show _ = _
        unfold tongB alnB
        rw [decide_eq_false (show ¬ (97 ≤ c.toNat ∧ c.toNat ≤ 122) by omega), decide_eq_false (show ¬ (65 ≤ c.toNat ∧ c.toNat ≤ 90) by omega), decide_eq_false (show ¬ (48 ≤ c.toNat ∧ c.toNat ≤ 57) by omega)]
        rfl
      have h3 : 65 ≤ (c.toNat : Int) := by omega
      have h4 : ¬ (c.toNat : Int) ≤ 90 := by omega
      have h5 : 48 ≤ (c.toNat : Int) := by omega
      have h6 : ¬ (c.toNat : Int) ≤ 57 := by omega
      go_enter Tryz.func106, Tryz.ntmps106
      go_wp2_with (go_at_call 90; refine (ix_tongS c _).mono ?_; rintro e w' ⟨⟨x, rfl, HX⟩, rfl⟩)
      go_ret
      exact ⟨ret_bool (by rw [HS.out, HX.out]), rfl⟩
  · by_cases h3 : 65 ≤ (c.toNat : Int)
    · by_cases h2 : (c.toNat : Int) ≤ 90
      · have HS : Hid (tongB c = true) := by
          show _ = _
          unfold tongB alnB
          rw [decide_eq_true (show 65 ≤ c.toNat ∧ c.toNat ≤ 90 by omega)]
          simp
        go_enter Tryz.func106, Tryz.ntmps106
        go_wp2
        go_ret
        exact ⟨ret_bool (by rw [HS.out]), rfl⟩
      · have HS : Hid (tongB c = tongS.contains c) := by
          show _ = _
          unfold tongB alnB
          rw [decide_eq_false (show ¬ (97 ≤ c.toNat ∧ c.toNat ≤ 122) by omega), decide_eq_false (show ¬ (65 ≤ c.toNat ∧ c.toNat ≤ 90) by omega), decide_eq_false (show ¬ (48 ≤ c.toNat ∧ c.toNat ≤ 57) by omega)]
          rfl
        have h5 : 48 ≤ (c.toNat : Int) := by omega
        have h6 : ¬ (c.toNat : Int) ≤ 57 := by omega
        go_enter Tryz.func106, Tryz.ntmps106
        go_wp2_with (go_at_call 90; refine (ix_tongS c _).mono ?_; rintro e w' ⟨⟨x, rfl, HX⟩, rfl⟩)
        go_ret
        exact ⟨ret_bool (by rw [HS.out, HX.out]), rfl⟩
    · by_cases h5 : 48 ≤ (c.toNat : Int)
      · by_cases h2 : (c.toNat : Int) ≤ 57
        · have HS : Hid (tongB c = true) := by
            show _ = _
            unfold tongB alnB
            rw [decide_eq_true (show 48 ≤ c.toNat ∧ c.toNat ≤ 57 by omega)]
            simp
          go_enter Tryz.func106, Tryz.ntmps106
          go_wp2
          go_ret
          exact ⟨ret_bool (by rw [HS.out]), rfl⟩
        · have HS : Hid (tongB c = tongS.contains c) := by
            show _ = _
            unfold tongB alnB
            rw [decide_eq_false (show ¬ (97 ≤ c.toNat ∧ c.toNat ≤ 122) by omega), decide_eq_false (show ¬ (65 ≤ c.toNat ∧ c.toNat ≤ 90) by omega), decide_eq_false (show ¬ (48 ≤ c.toNat ∧ c.toNat ≤ 57) by omega)]
            rfl
          go_enter Tryz.func106, Tryz.ntmps106
          go_wp2_with (go_at_call 90; refine (ix_tongS c _).mono ?_; rintro e w' ⟨⟨x, rfl, HX⟩, rfl⟩)
          go_ret
          exact ⟨ret_bool (by rw [HS.out, HX.out]), rfl⟩
      · have HS : Hid (tongB c = tongS.contains c) := by
          show _ = _
          unfold tongB alnB
          rw [decide_eq_false (show ¬ (97 ≤ c.toNat ∧ c.toNat ≤ 122) by omega), decide_eq_false (show ¬ (65 ≤ c.toNat ∧ c.toNat ≤ 90) by omega), decide_eq_false (show ¬ (48 ≤ c.toNat ∧ c.toNat ≤ 57) by omega)]
          rfl
        go_enter Tryz.func106, Tryz.ntmps106
        go_wp2_with (go_at_call 90; refine (ix_tongS c _).mono ?_; rintro e w' ⟨⟨x, rfl, HX⟩, rfl⟩)
        go_ret
        exact ⟨ret_bool (by rw [HS.out, HX.out]), rfl⟩
theorem kind_tong : Kind 106 tongB := ⟨tong_any, enters_at Tryz.func106 (by kernel_rfl) rfl⟩

set_option maxHeartbeats 1000000 in
/-- Whether all bytes of a text are of a kind. -/
theorem all_any (K : Nat) (f : UInt8 → Bool) (hK : Kind K f) (s : ByteArray) (hs : s.size ≤ 5000) (w : World) :
    Calls Tryz.prog 104 #[.string s, .func (.func K) #[] #[]] w fun e w' => e = .returned (.bool (s.data.toList.all f)) ∧ w' = w := by
  have HK0 : Hid (Kind K f) := hK
  have hen := hK.enters
  clear hK
  go_enter Tryz.func104, Tryz.ntmps104
  go_wp2
  go_loop [8] (fun i => ∃ (k : Nat), k ≤ s.size ∧ i = .int .i64 k ∧ Hid ((s.data.toList.take k).all f = true)) (fun i => s.size - (intOf i).toNat)
  case atStart => exact ⟨0, Nat.zero_le _, rfl, rfl⟩
  case round =>
    obtain ⟨k, hk, rfl, HK⟩ := hrel
    by_cases hlt : k < s.size
    · obtain ⟨c, hcd⟩ : ∃ c : UInt8, s[k] = c := ⟨_, rfl⟩
      have hcl : (c.toNat : Int) < 256 := by have := c.toNat_lt; omega
      cases hf : f c
      · have HR : Hid (s.data.toList.all f = false) := by
          show _ = _
          rw [List.all_eq_false]
          refine ⟨c, ?_, by rw [hf]; simp⟩
          rw [← hcd]
          exact List.getElem_mem (by simpa using hlt)
        go_wp2_with fail
        refine (HK0.out.says c _).mono ?_
        rintro e w' ⟨rfl, rfl⟩
        rw [hf]
        go_wp2
        go_ret
        exact ⟨ret_bool (by rw [HR.out]), rfl⟩
      · have HS : Hid ((s.data.toList.take (k + 1)).all f = true) := all_snoc f s k hlt c hcd HK hf
        go_wp2_with fail
        refine (HK0.out.says c _).mono ?_
        rintro e w' ⟨rfl, rfl⟩
        rw [hf]
        go_wp2
        go_round
        case rel => exact ⟨k + 1, by omega, by go_num, HS⟩
        case measure => simp [intOf]; omega
    · have HR : Hid (s.data.toList.all f = true) := by
        have h : (s.data.toList.take k).all f = true := HK
        rw [List.take_of_length_le (by simp; omega)] at h
        exact h
      go_wp2
      go_ret
      exact ⟨ret_bool (by have := HR.out; simpa using this), rfl⟩
end Go.Proofs.YtoblpjknnchlmabGreatDoor
