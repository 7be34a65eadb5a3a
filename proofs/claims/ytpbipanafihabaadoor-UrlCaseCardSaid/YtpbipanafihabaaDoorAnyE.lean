/- The first / ? or # of a text, by the library's search, on both its roads. -/
import Derived.Test.YtpbipanafihabaaDoorCasQ
import Derived.Test.YtpbipanafihabaaDoorShelf
import Derived.Lib.OthersKept
import Derived.Laws.RangeAny
import Derived.Laws.Runes
import Derived.Deep.QuietTactic
import Derived.BigQuiet
import Derived.WalkMore
import Derived.WalkSmall
import Derived.Deep.LoopGhost
namespace Go.Proofs.YtpbipanafihabaaDoor
open Go.RowKit

set_option maxHeartbeats 800000 in
set_option maxRecDepth 100000 in
theorem irune_end (c : UInt8) (h1 : (c.toNat : Int) < 128) (w : World) :
    Calls Tryd.prog 31 #[.string { data := #[47, 63, 35] }, .int .i32 (c.toNat : Int)] w fun e w' => e = .returned (.int .i64 (ixOf endL c)) ∧ Below w.heap.size w w' := by
  have h0 : (0 : Int) ≤ (c.toNat : Int) := by omega
  go_enter Tryd.func31, Tryd.ntmps31
  go_wp2_with (go_at_call 17; refine (ix_of _ c _ rfl _).mono ?_; rintro e w1 ⟨rfl, rfl⟩)
  go_ret
  exact ⟨rfl, Below.refl _ _⟩
theorem ix_end (c : UInt8) : (isEnd c = false ∧ ixOf endL c = -1) ∨ (isEnd c = true ∧ ∃ n : Nat, ixOf endL c = (n : Int)) := by
  have : ∀ c : UInt8, (isEnd c = false ∧ ixOf endL c = -1) ∨ (isEnd c = true ∧ 0 ≤ ixOf endL c) := all256 (by decide +kernel)
  rcases this c with h | ⟨h, h2⟩
  · exact .inl h
  · exact .inr ⟨h, (ixOf endL c).toNat, by omega⟩

set_option maxHeartbeats 800000 in
set_option maxRecDepth 100000 in
theorem anyE_short (s : ByteArray) (hs : s.size ≤ 8) (h t : List UInt8) (he : s.data.toList = h ++ t) (ha : ∀ c ∈ h, isEnd c = false ∧ c.toNat < 128) (ht : t = [] ∨ ∃ c r, t = c :: r ∧ isEnd c = true) (X : Int) (HX : Hid ((if t.isEmpty then -1 else (h.length : Int)) = X)) (w : World) :
    Calls Tryd.prog 12 #[.string s, .string { data := #[47, 63, 35] }] w fun e w' => e = .returned (.int .i64 X) ∧ Below w.heap.size w w' := by
  have hsl : s.data.toList.length = s.size := Array.length_toList
  have HE : Hid (s.data.toList = h ++ t ∧ (∀ c ∈ h, isEnd c = false ∧ c.toNat < 128) ∧ (t = [] ∨ ∃ c r, t = c :: r ∧ isEnd c = true)) := ⟨he, ha, ht⟩
  have hlen : s.size = h.length + t.length := by rw [← hsl, he, List.length_append]
  clear he ha ht
  have hs2 : (s.size : Int) ≤ 8 := by omega
  have hd8 : decide ((8 : Int) < (s.size : Int)) = false := by simp; omega
  go_enter Tryd.func12, Tryd.ntmps12
  go_wp2
  go_loopg [9, 10] s.size (fun g _ _ wx => ∃ i : Nat, s.size - i = g ∧ i ≤ h.length ∧ wx.heap[w.heap.size]? = some (.stringIter s i) ∧ Below w.heap.size w wx)
  case atStart =>
    refine ⟨0, rfl, Nat.zero_le _, ?_, (Below.refl _ _).alloc (Nat.le_refl _) _⟩
    show (w.heap.push (.stringIter s 0))[w.heap.size]? = _
    exact Array.getElem?_push_size
  case round =>
    obtain ⟨i, hig, hih, hk, hB⟩ := hrel
    by_cases hi : i < s.size
    · obtain ⟨c, hc⟩ : ∃ c : UInt8, s[i] = c := ⟨_, rfl⟩
      have hcl : s.data.toList[i]'(by rw [hsl]; exact hi) = c := hc
      have hcc : c.toNat < 128 ∧ ((i < h.length ∧ isEnd c = false) ∨ (i = h.length ∧ isEnd c = true)) := by
        have e9 : (h ++ t)[i]? = some c := by rw [← HE.out.1, List.getElem?_eq_getElem (by rw [hsl]; exact hi), hcl]
        by_cases hlt : i < h.length
        · rw [List.getElem?_append_left hlt] at e9
          have := HE.out.2.1 c (List.mem_of_getElem? e9)
          exact ⟨this.2, .inl ⟨hlt, this.1⟩⟩
        · obtain rfl : i = h.length := by omega
          rw [List.getElem?_append_right (Nat.le_refl _), Nat.sub_self] at e9
          rcases HE.out.2.2 with e | ⟨d, r, e, hd⟩
          · rw [e] at e9; cases e9
          · rw [e] at e9
            have : d = c := by simpa using e9
            subst this
            have h9 : ∀ d : UInt8, isEnd d = true → d.toNat < 128 := all256 (by decide +kernel)
            exact ⟨h9 d hd, .inr ⟨rfl, hd⟩⟩
      obtain ⟨h128, hcase⟩ := hcc
      have hdec : Utf8.decode s i = (c.toNat, 1) := by rw [← hc] at h128 ⊢; exact decode_ascii s i hi h128
      have hnx := fun ty => Lib.run_next_any_at (P := Tryd.prog) _ _ s i ty hk hi
      rw [hdec] at hnx
      have hk2 := Lib.iterAt_heap _ _ s i (i + 1) hk
      have hB2 := Lib.below_iterAt hB (Nat.le_refl _) s (i + 1)
      have h128i : (c.toNat : Int) < 128 := by omega
      generalize hW : World.iterAt _ _ s (i + 1) = W at hk2 hB2 hnx
      clear hW hk hB hdec hc hcl
      rcases hcase with ⟨hlt, hce⟩ | ⟨rfl, hce⟩
      · have hix : ixOf endL c = -1 := by
          rcases ix_end c with ⟨_, h⟩ | ⟨h, _⟩
          · exact h
          · rw [hce] at h; cases h
        go_wp2_with (go_at_call 31; refine (irune_end c h128i _).mono ?_; rintro e w1 ⟨rfl, hB3⟩; rw [hix])
        go_roundg (s.size - (i + 1))
        case measure => omega
        case rel =>
          have hlt2 : w.heap.size < W.heap.size := (Array.getElem?_eq_some_iff.1 hk2).1
          exact ⟨i + 1, rfl, hlt, (hB3.block _ hlt2).trans hk2, hB2.trans (hB3.mono (by omega))⟩
      · obtain ⟨n, hix⟩ : ∃ n : Nat, ixOf endL c = (n : Int) := by
          rcases ix_end c with ⟨h, _⟩ | ⟨_, h⟩
          · rw [hce] at h; cases h
          · exact h
        have HTE : Hid (t.isEmpty = false) := by
          show _ = _
          cases t with
          | nil => simp at hlen; omega
          | cons => rfl
        go_wp2_with (go_at_call 31; refine (irune_end c h128i _).mono ?_; rintro e w1 ⟨rfl, hB3⟩; rw [hix])
        go_ret
        have hlt2 : w.heap.size < W.heap.size := (Array.getElem?_eq_some_iff.1 hk2).1
        exact ⟨by rw [← HX.out, HTE.out]; rfl, hB2.trans (hB3.mono (by omega))⟩
    · have hnx := fun ty => Lib.run_next_end_at (P := Tryd.prog) _ _ s i ty hk hi
      have HTE : Hid (t = []) := List.eq_nil_of_length_eq_zero (by omega)
      go_wp2
      go_ret
      exact ⟨by rw [← HX.out, HTE.out]; rfl, hB⟩
theorem anyE (s : ByteArray) (hs : s.size ≤ 1000) (h t : List UInt8) (he : s.data.toList = h ++ t) (ha : ∀ c ∈ h, isEnd c = false ∧ c.toNat < 128) (ht : t = [] ∨ ∃ c r, t = c :: r ∧ isEnd c = true) (w : World) :
    Calls Tryd.prog 12 #[.string s, .string { data := #[47, 63, 35] }] w fun e w' => e = .returned (.int .i64 (if t.isEmpty then -1 else (h.length : Int))) ∧ Below w.heap.size w w' := by
  by_cases h8 : s.size ≤ 8
  · exact anyE_short s h8 h t he ha ht _ rfl w
  · refine (anyLong s _ w (by decide) (by omega) hs (by decide) ?_).mono ?_
    · intro j b hb
      have h9 : ∀ d : UInt8, isEnd d = true → d.toNat < 128 := all256 (by decide +kernel)
      refine h9 b ?_
      rw [← endL_is, List.contains_iff_mem]
      exact List.mem_of_getElem? hb
    · rintro e w' ⟨rfl, hB⟩
      refine ⟨?_, hB⟩
      rw [he, ← indexAny_at h t (fun c hc => (ha c hc).1) ht]
      rfl
end Go.Proofs.YtpbipanafihabaaDoor
