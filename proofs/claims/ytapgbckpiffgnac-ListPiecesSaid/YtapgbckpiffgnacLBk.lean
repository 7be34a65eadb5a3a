/- The law ListBack, walked. -/
import Derived.Test.YtapgbckpiffgnacWrd
import Derived.Test.YtapgbckpiffgnacCtn
import Derived.Deep.Cut
namespace Go.Proofs.Ytapgbckpiffgnac
open Go.RowKit

def notWord (x : ByteArray) : Bool := !isL x.data.toList
def noWord30 (x : ByteArray) : Bool := decide (30 < x.size) || notWord x
set_option maxHeartbeats 1000000 in
theorem word30_any (x : ByteArray) (hx : x.size ≤ 9223372036854775807) (w : World) :
    Calls Try.prog 23 #[.string x] w fun e w' => e = .returned (.bool (noWord30 x)) ∧ w' = w := by
  by_cases h : (30 : Int) < (x.size : Int)
  · have HR : Hid (noWord30 x = true) := by show _ = _; unfold noWord30; rw [decide_eq_true (by omega)]; rfl
    clear hx
    go_enter Try.func23, Try.ntmps23
    go_wp2
    go_ret
    exact ⟨ret_bool HR.out.symm, rfl⟩
  · have h30 : x.size ≤ 30 := by omega
    obtain ⟨b, HB⟩ : ∃ b : Bool, Hid (isL x.data.toList = b) := ⟨_, rfl⟩
    have HR : Hid (noWord30 x = !b) := by show _ = _; unfold noWord30 notWord; rw [decide_eq_false (by omega), HB.out]; rfl
    clear hx
    go_enter Try.func23, Try.ntmps23
    go_wp2_with (go_at_call 13; refine (is_any x (by omega) _).mono ?_; rintro e w' ⟨rfl, hw⟩; obtain rfl := hw.symm; rw [HB.out])
    go_ret
    exact ⟨ret_bool (by rw [HR.out]), rfl⟩
set_option maxHeartbeats 1000000 in
theorem notWord_any (x : ByteArray) (hx : x.size ≤ 5000) (w : World) :
    Calls Try.prog 12 #[.string x] w fun e w' => e = .returned (.bool (notWord x)) ∧ w' = w := by
  obtain ⟨b, HB⟩ : ∃ b : Bool, Hid (isL x.data.toList = b) := ⟨_, rfl⟩
  have HR : Hid (notWord x = !b) := by show _ = _; unfold notWord; rw [HB.out]
  go_enter Try.func12, Try.ntmps12
  go_wp2_with (go_at_call 13; refine (is_any x (by omega) _).mono ?_; rintro e w' ⟨rfl, hw⟩; obtain rfl := hw.symm; rw [HB.out])
  go_ret
  exact ⟨ret_bool (by rw [HR.out]), rfl⟩
theorem kind30 (xs : List ByteArray) (h : ∀ x ∈ xs, x.size ≤ 9223372036854775807) : KindS 23 noWord30 xs := ⟨fun x hx w => word30_any x (h x hx) w, enters_at Try.func23 (by kernel_rfl) rfl⟩
theorem kindNot (xs : List ByteArray) (h : ∀ x ∈ xs, x.size ≤ 5000) : KindS 12 notWord xs := ⟨fun x hx w => notWord_any x (h x hx) w, enters_at Try.func12 (by kernel_rfl) rfl⟩
def wordsB (len : Nat) (xs : List ByteArray) : Bool := decide (len ≤ 20) && !xs.any noWord30
set_option maxHeartbeats 1000000 in
theorem wordsOf_any (a0 : Option Addr) (len cap b off : Nat) (hlen : len ≤ 9223372036854775807) (xs : List ByteArray) (hbig : ∀ x ∈ xs, x.size ≤ 9223372036854775807) (w : World) (hx : Strs w a0 len b off xs) :
    Calls Try.prog 7 #[.slice a0 len cap] w fun e w' => e = .returned (.bool (wordsB len xs)) ∧ w' = w := by
  by_cases h : (len : Int) ≤ 20
  · obtain ⟨r, HR⟩ : ∃ r : Bool, Hid (xs.any noWord30 = r) := ⟨_, rfl⟩
    have HW : Hid (wordsB len xs = !r) := by show _ = _; unfold wordsB; rw [decide_eq_true (by omega), HR.out]; rfl
    clear hlen
    go_enter Try.func7, Try.ntmps7
    go_wp2_with (go_at_call 11; refine (containsFunc_any _ _ xs (kind30 xs hbig) a0 len cap b off (by omega) _ hx).mono ?_; rintro e w' ⟨rfl, hw⟩; obtain rfl := hw.symm; rw [HR.out])
    go_ret
    exact ⟨ret_bool (by rw [HW.out]), rfl⟩
  · have HW : Hid (wordsB len xs = false) := by show _ = _; unfold wordsB; rw [decide_eq_false (by omega)]; rfl
    clear hlen hx hbig
    go_enter Try.func7, Try.ntmps7
    go_wp2
    go_ret
    exact ⟨ret_bool HW.out.symm, rfl⟩
theorem texts_inj {xs ys : List ByteArray} (h : texts xs = texts ys) : xs = ys := by
  unfold texts at h
  have : ∀ (xs ys : List ByteArray), xs.map (·.data.toList) = ys.map (·.data.toList) → xs = ys := by
    intro xs
    induction xs with
    | nil => intro ys h; cases ys with
      | nil => rfl
      | cons y t => simp at h
    | cons x r ih =>
      intro ys h
      cases ys with
      | nil => simp at h
      | cons y t =>
        simp only [List.map_cons, List.cons.injEq] at h
        have e : x = y := by rw [← bs_self x, ← bs_self y, h.1]
        rw [e, ih t h.2]
  exact this xs ys h
theorem words_all {len : Nat} {xs : List ByteArray} (h : wordsB len xs = true) : len ≤ 20 ∧ (∀ x ∈ xs, x.size ≤ 30) ∧ ∀ l ∈ datas xs, isL l = true := by
  unfold wordsB at h
  rw [Bool.and_eq_true] at h
  have h2 : xs.any noWord30 = false := by simpa using h.2
  rw [List.any_eq_false] at h2
  refine ⟨of_decide_eq_true h.1, fun x hx => ?_, fun l hl => ?_⟩
  · have := h2 x hx
    unfold noWord30 at this
    simp at this
    omega
  · unfold datas at hl
    obtain ⟨x, hx, rfl⟩ := List.mem_map.1 hl
    have := h2 x hx
    unfold noWord30 notWord at this
    simp at this
    exact this.2
/-- The whole list's words are no longer than the text. -/
theorem size_of_words {s : ByteArray} {xs : List ByteArray} (h : listP 0 (splitL 44 s.data.toList) = .ok (texts xs)) : ∀ x ∈ xs, notWord x = false := by
  intro x hx
  have := okL_words ((okL_iff _ _).1 h) x.data.toList (List.mem_map.2 ⟨x, hx, rfl⟩)
  unfold notWord
  rw [this]
  rfl
theorem split_size (c : UInt8) : ∀ (l : List UInt8) (p : List UInt8), p ∈ splitL c l → p.length ≤ l.length
  | [], p, h => by
    have : p = [] := by simpa [splitL] using h
    rw [this]
    exact Nat.le_refl _
  | d :: t, p, h => by
    rw [splitL] at h
    split at h
    · rcases List.mem_cons.1 h with rfl | h
      · simp
      · have := split_size c t p h
        simp
        omega
    · cases e : splitL c t with
      | nil =>
        rw [e] at h
        have : p = [d] := by simpa using h
        rw [this]
        simp
      | cons q r =>
        rw [e] at h
        rcases List.mem_cons.1 h with rfl | h
        · have := split_size c t q (by rw [e]; simp)
          simp
          omega
        · have := split_size c t p (by rw [e]; simp [h])
          simp
          omega
theorem words_size (P : List (List UInt8)) (m : Nat) (h : ∀ p ∈ P, p.length ≤ m) : ∀ w ∈ wordsP P, w.length ≤ m := by
  induction P with
  | nil => intro w hw; cases hw
  | cons p r ih =>
    intro w hw
    rw [wordsP, consW] at hw
    have hr := ih (fun q hq => h q (by simp [hq]))
    split at hw
    · exact hr w hw
    · rcases List.mem_cons.1 hw with rfl | hw
      · have h1 := h p (by simp)
        have h2 : (wordP p).length ≤ p.length := by
          unfold wordP
          exact Nat.le_trans (List.takeWhile_sublist _).length_le (List.dropWhile_sublist _).length_le
        omega
      · exact hr w hw
theorem size_le {s : ByteArray} {xs : List ByteArray} (h : listP 0 (splitL 44 s.data.toList) = .ok (texts xs)) : ∀ x ∈ xs, x.size ≤ s.size := by
  intro x hx
  have h1 := (okL_iff _ _).1 h
  have h2 := words_size (splitL 44 s.data.toList) s.size (fun p hp => by have := split_size 44 _ p hp; rw [len_data] at this; exact this) x.data.toList (by rw [← h1.2]; exact List.mem_map.2 ⟨x, hx, rfl⟩)
  rw [len_data] at h2
  exact h2
end Go.Proofs.Ytapgbckpiffgnac
