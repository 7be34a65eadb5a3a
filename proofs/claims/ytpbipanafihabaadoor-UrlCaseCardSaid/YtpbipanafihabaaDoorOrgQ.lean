/- The scheme of a text, by where "://" begins: what the document's own answer reads, told as a list of bytes. -/
import Derived.Test.YtpbipanafihabaaDoorScm
import Derived.Lib.IndexMore
namespace Go.Proofs.YtpbipanafihabaaDoor
open Go.RowKit

def http4 : List UInt8 := [104, 116, 116, 112]
def https5 : List UInt8 := [104, 116, 116, 112, 115]
def markC : List UInt8 := [58, 47, 47]
theorem low_mark (c d : UInt8) (hd : d.toNat < 65) (h : low c = d) : c = d := by
  unfold low at h
  split at h
  · rename_i hc
    obtain ⟨h1, h2⟩ := hc
    have h1' : 65 ≤ c.toNat := UInt8.le_iff_toNat_le.1 h1
    have h2' : c.toNat ≤ 90 := UInt8.le_iff_toNat_le.1 h2
    have h3 : (c + 32).toNat = c.toNat + 32 := by rw [UInt8.toNat_add]; show (c.toNat + 32) % 256 = _; omega
    rw [h] at h3
    omega
  · exact h
theorem low_not (c d : UInt8) (hd : low c = d) (h : d ≠ 58) : c ≠ 58 := by
  rintro rfl
  exact h (hd.symm.trans (by decide))
theorem no_mark (a : UInt8) (l : List UInt8) (h : a ≠ 58) : markC.isPrefixOf (a :: l) = false := by
  unfold markC
  rw [List.isPrefixOf]
  simp [h.symm]
theorem index_four (a b c d : UInt8) (r : List UInt8) (ha : a ≠ 58) (hb : b ≠ 58) (hc : c ≠ 58) (hd : d ≠ 58) : Lib.index (a :: b :: c :: d :: 58 :: 47 :: 47 :: r) markC = 4 := by
  refine Lib.index_first (i := 4) (by simp) (by simp [Lib.occAt, markC]) fun j hj => ?_
  match j, hj with
  | 0, _ => exact no_mark _ _ ha
  | 1, _ => exact no_mark _ _ hb
  | 2, _ => exact no_mark _ _ hc
  | 3, _ => exact no_mark _ _ hd
theorem index_five (a b c d e : UInt8) (r : List UInt8) (ha : a ≠ 58) (hb : b ≠ 58) (hc : c ≠ 58) (hd : d ≠ 58) (he : e ≠ 58) : Lib.index (a :: b :: c :: d :: e :: 58 :: 47 :: 47 :: r) markC = 5 := by
  refine Lib.index_first (i := 5) (by simp) (by simp [Lib.occAt, markC]) fun j hj => ?_
  match j, hj with
  | 0, _ => exact no_mark _ _ ha
  | 1, _ => exact no_mark _ _ hb
  | 2, _ => exact no_mark _ _ hc
  | 3, _ => exact no_mark _ _ hd
  | 4, _ => exact no_mark _ _ he
theorem scheme_idx (l : List UInt8) : (Lib.index l markC = -1 ∧ schemeL l = none) ∨ ∃ i : Nat, Lib.index l markC = i ∧ i + 3 ≤ l.length ∧
    (((l.take i).map low = http4 ∧ schemeL l = some (false, l.drop (i + 3))) ∨ ((l.take i).map low = https5 ∧ schemeL l = some (true, l.drop (i + 3))) ∨ ((l.take i).map low ≠ http4 ∧ (l.take i).map low ≠ https5 ∧ schemeL l = none)) := by
  by_cases hA : (l.take 7).map low = httpL
  · right
    rcases l with _ | ⟨a, _ | ⟨b, _ | ⟨c, _ | ⟨d, _ | ⟨e, _ | ⟨f, _ | ⟨g, r⟩⟩⟩⟩⟩⟩⟩ <;> simp [httpL] at hA
    obtain ⟨h1, h2, h3, h4, h5, h6, h7⟩ := hA
    obtain rfl := low_mark e 58 (by decide) h5
    obtain rfl := low_mark f 47 (by decide) h6
    obtain rfl := low_mark g 47 (by decide) h7
    refine ⟨4, index_four a b c d r (low_not a _ h1 (by decide)) (low_not b _ h2 (by decide)) (low_not c _ h3 (by decide)) (low_not d _ h4 (by decide)), by simp, .inl ⟨by simp [http4, h1, h2, h3, h4], ?_⟩⟩
    simp [schemeL, httpL, h1, h2, h3, h4, h5, h6]
  · by_cases hB : (l.take 8).map low = httpsL
    · right
      have hs : schemeL l = some (true, l.drop 8) := by unfold schemeL; rw [if_neg hA, if_pos hB]
      rcases l with _ | ⟨a, _ | ⟨b, _ | ⟨c, _ | ⟨d, _ | ⟨e, _ | ⟨f, _ | ⟨g, _ | ⟨k, r⟩⟩⟩⟩⟩⟩⟩⟩ <;> simp [httpsL] at hB
      obtain ⟨h1, h2, h3, h4, h5, h6, h7, h8⟩ := hB
      obtain rfl := low_mark f 58 (by decide) h6
      obtain rfl := low_mark g 47 (by decide) h7
      obtain rfl := low_mark k 47 (by decide) h8
      exact ⟨5, index_five a b c d e r (low_not a _ h1 (by decide)) (low_not b _ h2 (by decide)) (low_not c _ h3 (by decide)) (low_not d _ h4 (by decide)) (low_not e _ h5 (by decide)), by simp, .inr (.inl ⟨by simp [https5, h1, h2, h3, h4, h5], hs⟩)⟩
    · have hs : schemeL l = none := by unfold schemeL; rw [if_neg hA, if_neg hB]
      rcases Lib.index_spec l markC with ⟨h, _⟩ | ⟨i, h, hi, ho, _⟩
      · exact .inl ⟨h, hs⟩
      · obtain ⟨t, ht⟩ := List.isPrefixOf_iff_prefix.1 ho
        have hl : l = l.take i ++ (markC ++ t) := by rw [ht, List.take_append_drop]
        have hz : (l.take i).length = i := by rw [List.length_take]; omega
        have hlen : i + 3 ≤ l.length := by
          have := congrArg List.length hl
          simp [markC] at this
          omega
        refine .inr ⟨i, h, hlen, .inr (.inr ⟨fun e => hA ?_, fun e => hB ?_, hs⟩)⟩
        · have h4 : i = 4 := by have := congrArg List.length e; simp [http4] at this; omega
          subst h4
          rw [hl, List.take_append]
          simp only [hz, List.take_take]
          rw [show min 7 4 = 4 from rfl, List.map_append, e]
          simp [markC, http4, httpL]
          decide
        · have h5 : i = 5 := by have := congrArg List.length e; simp [https5] at this; omega
          subst h5
          rw [hl, List.take_append]
          simp only [hz, List.take_take]
          rw [show min 8 5 = 5 from rfl, List.map_append, e]
          simp [markC, https5, httpsL]
          decide
end Go.Proofs.YtpbipanafihabaaDoor
