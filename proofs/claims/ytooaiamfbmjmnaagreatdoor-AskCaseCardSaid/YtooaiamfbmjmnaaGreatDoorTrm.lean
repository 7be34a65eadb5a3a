/- A path without its first slash, by the library's own function. -/
import Derived.Test.YtooaiamfbmjmnaaGreatDoorSpl
namespace Go.Proofs.YtooaiamfbmjmnaaGreatDoor
open Go.RowKit

theorem one_list (s : ByteArray) (h : 0 < s.size) : (s.extract 0 1).toList = [s[0]] := by
  rw [ByteArray.toList_eq, upto_data]
  have := take_snoc s 0 h
  simpa using this
theorem body_yes (s : ByteArray) (h : 0 < s.size) (e : s[0] = 47) : bs (bodyL s.data.toList) = s.extract 1 s.size := by
  have hl : s.data.toList = 47 :: s.data.toList.drop 1 := by
    have h1 := List.drop_eq_getElem_cons (l := s.data.toList) (i := 0) (by simpa using h)
    simp only [List.drop_zero] at h1
    rw [h1]
    have : s.data.toList[0]'(by simpa using h) = 47 := e
    simp [this]
  rw [← bs_self (s.extract 1 s.size), from_data]
  congr 1
  generalize s.data.toList.drop 1 = t at hl
  rw [hl]
  rfl
theorem body_no (s : ByteArray) (h : 0 < s.size) (e : s[0] ≠ 47) : bs (bodyL s.data.toList) = s := by
  have hl : s.data.toList = s[0] :: s.data.toList.drop 1 := by
    have h1 := List.drop_eq_getElem_cons (l := s.data.toList) (i := 0) (by simpa using h)
    simp only [List.drop_zero] at h1
    rw [h1]
    rfl
  have hb : bodyL s.data.toList = s.data.toList := by
    generalize s.data.toList.drop 1 = t at hl
    rw [hl]
    unfold bodyL
    split
    · rename_i h2
      simp at h2
      exact absurd h2.1 e
    · rfl
  rw [hb, bs_self]
set_option maxHeartbeats 1000000 in
theorem trimP (s : ByteArray) (hs : s.size ≤ 5000) (w : World) :
    Calls Tryz.prog 131 #[.string s, .string ⟨#[47]⟩] w fun e w' => e = .returned (.string (bs (bodyL s.data.toList))) ∧ w' = w := by
  by_cases h0 : s.size = 0
  · obtain rfl : s = ⟨#[]⟩ := by
      apply ByteArray.ext
      exact Array.eq_empty_of_size_eq_zero h0
    go_enter Tryz.func131, Tryz.ntmps131
    go_wp2
    go_ret
    exact ⟨rfl, rfl⟩
  · have hp : 0 < s.size := by omega
    obtain ⟨c, hc⟩ : ∃ c, s[0] = c := ⟨_, rfl⟩
    have h1 := one_list s hp
    rw [hc] at h1
    by_cases h47 : c = 47
    · subst h47
      rw [body_yes s hp hc]
      have q : ((s.extract 0 1).toList == [47]) = true := by rw [h1]; rfl
      go_enter Tryz.func131, Tryz.ntmps131
      go_wp2
      go_ret
      exact ⟨rfl, rfl⟩
    · rw [body_no s hp (by rw [hc]; exact h47)]
      have q : (c == 47) = false := beq_eq_false_iff_ne.2 h47
      go_enter Tryz.func131, Tryz.ntmps131
      go_wp2
      go_ret
      exact ⟨rfl, rfl⟩
end Go.Proofs.YtooaiamfbmjmnaaGreatDoor
