/- No great letter in a text: the library's search for any of the 26 finds none, on both its roads. -/
import Derived.Test.YtkokdoodaoijoabAz
namespace Go.Proofs.Ytkokdoodaoijoab
open Go.RowKit

theorem rune_free (s : ByteArray) (i : Nat) (h : i < s.size) (hf : ∀ c ∈ s.data.toList, ¬ (65 ≤ c.toNat ∧ c.toNat ≤ 90)) :
    ∃ (r n : Nat), Utf8.decode s i = (r, n) ∧ r ≤ 2147483647 ∧ ¬ (65 ≤ r ∧ r ≤ 90) ∧ 1 ≤ n := by
  refine ⟨(Utf8.decode s i).1, (Utf8.decode s i).2, rfl, decode_le s i, ?_⟩
  have hm : s[i]'h ∈ s.data.toList := by
    have : s[i]'h = s.data.toList[i]'(by simpa using h) := by simp [ByteArray.getElem_eq_getElem_data]
    rw [this]
    exact List.getElem_mem _
  have hb := hf _ hm
  by_cases ha : (s[i]'h).toNat < 128
  · rw [decode_ascii s i h ha]
    exact ⟨hb, Nat.le_refl _⟩
  · have := decode_high s i h (by omega)
    exact ⟨by omega, this.2⟩

set_option maxHeartbeats 800000 in
set_option maxRecDepth 100000 in
theorem any_short (s : ByteArray) (hs : s.size ≤ 8) (hf : ∀ c ∈ s.data.toList, ¬ (65 ≤ c.toNat ∧ c.toNat ≤ 90)) (w : World) :
    Calls Try.prog 17 #[.string s, .string ({ data := #[65, 66, 67, 68, 69, 70, 71, 72, 73, 74, 75, 76, 77, 78, 79, 80, 81, 82, 83, 84, 85, 86, 87, 88, 89, 90] } : ByteArray)] w fun e w' => e = .returned (.int .i64 (-1)) ∧ Below w.heap.size w w' := by
  have HF : Hid (∀ c ∈ s.data.toList, ¬ (65 ≤ c.toNat ∧ c.toNat ≤ 90)) := hf
  clear hf
  have hs2 : (s.size : Int) ≤ 8 := by omega
  have hd8 : decide ((8 : Int) < (s.size : Int)) = false := by simp; omega
  go_enter Try.func17, Try.ntmps17
  go_wp2
  go_loopg [9, 10] s.size (fun g _ _ wx => ∃ i : Nat, s.size - i = g ∧ wx.heap[w.heap.size]? = some (.stringIter s i) ∧ Below w.heap.size w wx)
  case atStart =>
    refine ⟨0, rfl, ?_, (Below.refl _ _).alloc (Nat.le_refl _) _⟩
    show (w.heap.push (.stringIter s 0))[w.heap.size]? = _
    exact Array.getElem?_push_size
  case round =>
    obtain ⟨i, hig, hk, hB⟩ := hrel
    by_cases hi : i < s.size
    · obtain ⟨r, n, hdec, hr1, hr2, hn⟩ := rune_free s i hi HF.out
      have hnx := fun ty => Lib.run_next_any_at (P := Try.prog) _ _ s i ty hk hi
      rw [hdec] at hnx
      have hk2 := Lib.iterAt_heap _ _ s i (i + n) hk
      have hB2 := Lib.below_iterAt hB (Nat.le_refl _) s (i + n)
      have HR : Hid (¬ (65 ≤ (r : Int) ∧ (r : Int) ≤ 90)) := by
        show ¬ _
        omega
      have hr3 : (r : Int) ≤ 2147483647 := by omega
      generalize hW : World.iterAt _ _ s (i + n) = W at hk2 hB2 hnx
      clear hW hk hB hdec hr2
      go_wp2_with (go_at_call 20; refine (irune_none _ (by omega) hr3 HR.out _).mono ?_; rintro e w1 ⟨rfl, hB3⟩)
      go_roundg (s.size - (i + n))
      case measure => omega
      case rel =>
        have hlt : w.heap.size < W.heap.size := (Array.getElem?_eq_some_iff.1 hk2).1
        exact ⟨i + n, rfl, (hB3.block _ hlt).trans hk2, hB2.trans (hB3.mono (by omega))⟩
    · have hnx := fun ty => Lib.run_next_end_at (P := Try.prog) _ _ s i ty hk hi
      go_wp2
      go_ret
      exact ⟨rfl, hB⟩

theorem any_none (s : ByteArray) (hs : s.size ≤ 1000) (hf : ∀ c ∈ s.data.toList, ¬ (65 ≤ c.toNat ∧ c.toNat ≤ 90)) (w : World) :
    Calls Try.prog 17 #[.string s, .string ({ data := #[65, 66, 67, 68, 69, 70, 71, 72, 73, 74, 75, 76, 77, 78, 79, 80, 81, 82, 83, 84, 85, 86, 87, 88, 89, 90] } : ByteArray)] w fun e w' => e = .returned (.int .i64 (-1)) ∧ Below w.heap.size w w' := by
  by_cases h8 : s.size ≤ 8
  · exact any_short s h8 hf w
  · refine (anyLong s _ w (by decide) (by omega) hs (by decide) ?_).mono ?_
    · intro j b hb
      have : b ∈ azL := List.mem_of_getElem? hb
      rw [azL_iff] at this
      omega
    · rintro e w' ⟨rfl, hB⟩
      refine ⟨?_, hB⟩
      rw [Lib.indexAny_none]
      intro j b _ hb
      have h1 := hf b (List.mem_of_getElem? hb)
      show azL.contains b = false
      rw [Bool.eq_false_iff]
      intro h2
      rw [List.contains_iff_mem, azL_iff] at h2
      omega

set_option maxHeartbeats 400000 in
theorem contains_none (s : ByteArray) (hs : s.size ≤ 1000) (hf : ∀ c ∈ s.data.toList, ¬ (65 ≤ c.toNat ∧ c.toNat ≤ 90)) (w : World) :
    Calls Try.prog 12 #[.string s, .string ({ data := #[65, 66, 67, 68, 69, 70, 71, 72, 73, 74, 75, 76, 77, 78, 79, 80, 81, 82, 83, 84, 85, 86, 87, 88, 89, 90] } : ByteArray)] w fun e w' => e = .returned (.bool false) ∧ Below w.heap.size w w' := by
  have HF : Hid (∀ c ∈ s.data.toList, ¬ (65 ≤ c.toNat ∧ c.toNat ≤ 90)) := hf
  clear hf
  go_enter Try.func12, Try.ntmps12
  go_wp2_with (go_at_call 17; refine (any_none s hs HF.out _).mono ?_; rintro e w1 ⟨rfl, hB3⟩)
  go_ret
  exact ⟨rfl, hB3⟩
end Go.Proofs.Ytkokdoodaoijoab
