/- The words that a field tells. -/
import Derived.Test.YtoblpjknnchlmabGreatDoorCorsD
import Derived.Test.YtoblpjknnchlmabGreatDoorLst
namespace Go.Proofs.YtoblpjknnchlmabGreatDoor

/-- The words of a list, if it can be read and holds no more than forty. -/
def wordsO (x : List UInt8) : Option (List ByteArray) := match listP 0 (splitL 44 x) with
  | .ok ws => if ws.length ≤ 40 then some (ws.map bs) else none
  | .error _ => none
theorem texts_bs (xs : List ByteArray) : (texts xs).map bs = xs := by
  unfold texts
  rw [List.map_map]
  conv => rhs; rw [← List.map_id xs]
  apply List.map_congr_left
  intro x _
  exact bs_self x
theorem wordsO_ok {x : List UInt8} {xs : List ByteArray} (h : listP 0 (splitL 44 x) = .ok (texts xs)) (hl : xs.length ≤ 40) : wordsO x = some xs := by
  unfold wordsO
  rw [h]
  show (if (texts xs).length ≤ 40 then _ else _) = _
  rw [if_pos (by unfold texts; simpa using hl), texts_bs]
theorem wordsO_many {x : List UInt8} {xs : List ByteArray} (h : listP 0 (splitL 44 x) = .ok (texts xs)) (hl : 40 < xs.length) : wordsO x = none := by
  unfold wordsO
  rw [h]
  show (if (texts xs).length ≤ 40 then _ else _) = _
  rw [if_neg (by unfold texts; simp; omega)]
theorem wordsO_bad {x : List UInt8} {p : Nat} (h : listP 0 (splitL 44 x) = .error p) : wordsO x = none := by
  unfold wordsO
  rw [h]
theorem splitL_lens (d : UInt8) : ∀ (l : List UInt8) (p : List UInt8), p ∈ splitL d l → p.length ≤ l.length
  | [], p, h => by
    rw [splitL] at h
    rw [List.mem_singleton.1 h]
    exact Nat.le_refl _
  | c :: t, p, h => by
    have ih := splitL_lens d t
    rw [splitL] at h
    split at h
    · rcases List.mem_cons.1 h with h | h
      · rw [h]; exact Nat.zero_le _
      · have := ih p h
        rw [List.length_cons]
        omega
    · split at h
      · rename_i h2
        rw [List.mem_singleton.1 h]
        simp
      · rename_i q r h2
        rcases List.mem_cons.1 h with h | h
        · rw [h]
          have := ih q (by rw [h2]; exact List.mem_cons_self)
          simp
          omega
        · have := ih p (by rw [h2]; exact List.mem_cons_of_mem _ h)
          rw [List.length_cons]
          omega
theorem listP_lens : ∀ (P : List (List UInt8)) (k : Nat) (ws : List (List UInt8)) (n : Nat), listP k P = .ok ws → (∀ p ∈ P, p.length ≤ n) → ∀ w ∈ ws, w.length ≤ n
  | [], k, ws, n, h, _, w, hw => by
    simp only [listP, Except.ok.injEq] at h
    rw [← h] at hw
    cases hw
  | p :: r, k, ws, n, h, hn, w, hw => by
    rw [listP] at h
    split at h
    · rcases e : listP (k + p.length + 1) r with x | ys
      · rw [e] at h
        cases h
      · rw [e] at h
        have h' : consW (wordP p) ys = ws := by injection h
        rw [← h'] at hw
        have hwp : (wordP p).length ≤ n := by
          have h1 := hn p List.mem_cons_self
          have h2 : (wordP p).length ≤ p.length := by
            unfold wordP
            exact Nat.le_trans (List.Sublist.length_le (List.takeWhile_sublist _)) (List.Sublist.length_le (List.dropWhile_sublist _))
          omega
        have ih := listP_lens r _ ys n e (fun q hq => hn q (List.mem_cons_of_mem _ hq))
        unfold consW at hw
        split at hw
        · exact ih w hw
        · rcases List.mem_cons.1 hw with hw | hw
          · rw [hw]; exact hwp
          · exact ih w hw
    · cases h
theorem wordsO_len {x : List UInt8} {xs : List ByteArray} (h : wordsO x = some xs) : xs.length ≤ 40 ∧ ∀ w ∈ xs, w.size ≤ x.length := by
  unfold wordsO at h
  split at h
  · rename_i ws hws
    split at h
    · rename_i hl
      simp only [Option.some.injEq] at h
      rw [← h]
      refine ⟨by simpa using hl, fun w hw => ?_⟩
      obtain ⟨v, hv, rfl⟩ := List.mem_map.1 hw
      rw [bs_size]
      exact listP_lens _ _ _ _ hws (fun p hp => splitL_lens 44 x p hp) v hv
    · cases h
  · cases h
def mN : List UInt8 := [65, 99, 99, 101, 115, 115, 45, 67, 111, 110, 116, 114, 111, 108, 45, 65, 108, 108, 111, 119, 45, 77, 101, 116, 104, 111, 100, 115]
def hN : List UInt8 := [65, 99, 99, 101, 115, 115, 45, 67, 111, 110, 116, 114, 111, 108, 45, 65, 108, 108, 111, 119, 45, 72, 101, 97, 100, 101, 114, 115]
end Go.Proofs.YtoblpjknnchlmabGreatDoor
