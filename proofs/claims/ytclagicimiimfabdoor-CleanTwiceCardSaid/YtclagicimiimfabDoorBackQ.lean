/- What is read is written and read again: over lists of bytes. -/
import Derived.Test.YtclagicimiimfabDoorPrsQ
import Derived.Test.YtclagicimiimfabDoorTxt
namespace Go.Proofs.YtclagicimiimfabDoor
open Go.RowKit

theorem host_byte {was : UInt8} : ∀ {l : List UInt8}, hostFrom was l = true → ∀ c ∈ l, alnum c = true ∨ c = 45 ∨ c = 46
  | [], _, c, hc => by cases hc
  | b :: t, h, c, hc => by
    rw [hostFrom, Bool.and_eq_true] at h
    rcases List.mem_cons.1 hc with rfl | hc
    · have h1 := h.1
      unfold hostStep at h1
      by_cases e1 : c = 46
      · exact .inr (.inr e1)
      by_cases e2 : c = 45
      · exact .inr (.inl e2)
      left
      cases ha : alnum c with
      | true => rfl
      | false =>
        have b1 : (c != 46) = true := bne_iff_ne.2 e1
        have b2 : (c != 45) = true := bne_iff_ne.2 e2
        rw [ha, b1, b2] at h1
        simp at h1
    · exact host_byte h.2 c hc
theorem alnum_bounds {c : UInt8} (h : alnum c = true) : (97 ≤ c.toNat ∧ c.toNat ≤ 122) ∨ (48 ≤ c.toNat ∧ c.toNat ≤ 57) := by
  unfold alnum at h
  rw [Bool.or_eq_true] at h
  rcases h with h | h
  · exact .inl (of_decide_eq_true h)
  · exact .inr (of_decide_eq_true h)
theorem host_ne {was : UInt8} {l : List UInt8} (h : hostFrom was l = true) (d : UInt8) (hd : d.toNat = 35 ∨ d.toNat = 63 ∨ d.toNat = 47 ∨ d.toNat = 58) : d ∉ l := by
  intro hm
  rcases host_byte h d hm with h1 | rfl | rfl
  · have := alnum_bounds h1
    omega
  · have : (45 : UInt8).toNat = 45 := rfl
    omega
  · have : (46 : UInt8).toNat = 46 := rfl
    omega
theorem low_same (c : UInt8) (h : ¬ (65 ≤ c.toNat ∧ c.toNat ≤ 90)) : low c = c := low_out c (by omega)
theorem host_low {was : UInt8} {l : List UInt8} (h : hostFrom was l = true) : l.map low = l := by
  have hb := host_byte h
  clear h
  induction l with
  | nil => rfl
  | cons b t ih =>
    rw [List.map_cons, ih (fun c hc => hb c (by simp [hc]))]
    congr 1
    refine low_same b ?_
    rcases hb b (by simp) with h1 | rfl | rfl
    · have := alnum_bounds h1
      omega
    · decide
    · decide
theorem rightL_parts {h : List UInt8} {n : Int} (hr : rightL h n = true) : h.length ≤ 60 ∧ 1 ≤ n ∧ n ≤ 65535 ∧ hostL h = true := by
  unfold rightL at hr
  rw [Bool.and_eq_true, Bool.and_eq_true] at hr
  have h2 := of_decide_eq_true hr.1.2
  exact ⟨of_decide_eq_true hr.1.1, h2.1, h2.2, hr.2⟩
theorem dec_digits (u : Nat) : ∀ c ∈ Lib.decDigits u, digB c = true := by
  induction u using Nat.strongRecOn with
  | _ u ih =>
    intro c hc
    rw [Lib.decDigits] at hc
    split at hc
    · rename_i h
      rw [List.mem_singleton] at hc
      subst hc
      have : (UInt8.ofNat (48 + u)).toNat = 48 + u := by simp only [UInt8.toNat_ofNat']; omega
      unfold digB
      rw [this]
      exact decide_eq_true (by omega)
    · rename_i h
      rcases List.mem_append.1 hc with hc | hc
      · exact ih (u / 10) (by omega) c hc
      · rw [List.mem_singleton] at hc
        subst hc
        have : (UInt8.ofNat (48 + u % 10)).toNat = 48 + u % 10 := by simp only [UInt8.toNat_ofNat']; omega
        unfold digB
        rw [this]
        exact decide_eq_true (by omega)
theorem dec_val (u : Nat) : valL (Lib.decDigits u) = u := by
  induction u using Nat.strongRecOn with
  | _ u ih =>
    rw [Lib.decDigits]
    split
    · rename_i h
      have : (UInt8.ofNat (48 + u)).toNat = 48 + u := by simp only [UInt8.toNat_ofNat']; omega
      simp only [valL, List.foldl_cons, List.foldl_nil]
      rw [this]
      omega
    · rename_i h
      have : (UInt8.ofNat (48 + u % 10)).toNat = 48 + u % 10 := by simp only [UInt8.toNat_ofNat']; omega
      rw [valL_snoc, ih (u / 10) (by omega), this]
      omega
theorem dec_len (u : Nat) (h : u ≤ 99999) : (Lib.decDigits u).length ≤ 5 := by
  have step : ∀ k v, v < 10 ^ (k + 1) → (Lib.decDigits v).length ≤ k + 1 := by
    intro k
    induction k with
    | zero =>
      intro v hv
      rw [Lib.decDigits, dif_pos (by omega)]
      simp
    | succ k ih =>
      intro v hv
      rw [Lib.decDigits]
      split
      · simp
      · rw [List.length_append]
        have := ih (v / 10) (by rw [Nat.pow_succ] at hv; omega)
        simp
        omega
  exact step 4 u (by omega)
theorem num_itoa (n : Int) (h1 : 1 ≤ n) (h2 : n ≤ 65535) : (numL (Lib.itoa n) : Int) = n ∧ (58 : UInt8) ∉ Lib.itoa n := by
  have e : Lib.itoa n = Lib.decDigits n.toNat := by rw [Lib.itoa, if_neg (by omega)]
  rw [e]
  refine ⟨?_, fun hm => ?_⟩
  · unfold numL
    rw [if_pos ⟨dec_len _ (by omega), List.all_eq_true.2 (dec_digits _)⟩, dec_val]
    omega
  · have := dec_digits _ _ hm
    exact absurd this (by decide)
theorem itoa_ne (n : Int) (h1 : 1 ≤ n) (d : UInt8) (hd : d.toNat = 35 ∨ d.toNat = 63 ∨ d.toNat = 47) : d ∉ Lib.itoa n := by
  have e : Lib.itoa n = Lib.decDigits n.toNat := by rw [Lib.itoa, if_neg (by omega)]
  rw [e]
  intro hm
  have := of_decide_eq_true (dec_digits _ _ hm)
  omega
theorem tail_ne (sec : Bool) (n : Int) (h1 : 1 ≤ n) (d : UInt8) (hd : d.toNat = 35 ∨ d.toNat = 63 ∨ d.toNat = 47) : d ∉ tailT sec n := by
  unfold tailT
  split
  · simp
  · intro hm
    rcases List.mem_cons.1 hm with e | hm
    · subst e
      revert hd
      decide
    · exact itoa_ne n h1 d hd hm
/-- A host and its port, as they are written, are read as what they are. -/
theorem origin_back (sec : Bool) (h : List UInt8) (n : Int) (hr : rightL h n = true) : originL sec (h ++ tailT sec n) = some (h, n) := by
  obtain ⟨hl, h1, h2, hh⟩ := rightL_parts hr
  have h58 : (58 : UInt8) ∉ h := host_ne hh 58 (.inr (.inr (.inr rfl)))
  have hlow : h.map low = h := host_low hh
  by_cases hp : n = portI sec
  · have ht : tailT sec n = [] := by unfold tailT; rw [if_pos hp]
    rw [ht, List.append_nil]
    rw [originL_of (cutL_none 58 h h58) hlow.symm (P := n) (by rw [if_neg (by simp), hp]) hr]
    rfl
  · have ht : tailT sec n = 58 :: Lib.itoa n := by unfold tailT; rw [if_neg hp]
    rw [ht]
    rw [originL_of (cutL_some 58 (Lib.itoa n) h h58) hlow.symm (P := n) (by rw [if_pos rfl, (num_itoa n h1 h2).1]) hr]
    rfl
theorem scheme_mark (sec : Bool) (l : List UInt8) : schemeL ((markOf sec).data.toList ++ l) = some (sec, l) := by
  cases sec
  · unfold schemeL
    have : ((markOf false).data.toList ++ l).take 7 = [104, 116, 116, 112, 58, 47, 47] := rfl
    rw [this, if_pos (by decide)]
    rfl
  · unfold schemeL
    have e1 : ((markOf true).data.toList ++ l).take 7 = [104, 116, 116, 112, 115, 58, 47] := rfl
    have e2 : ((markOf true).data.toList ++ l).take 8 = [104, 116, 116, 112, 115, 58, 47, 47] := rfl
    rw [e1, e2, if_neg (by decide), if_pos (by decide)]
    rfl
theorem text_back (sec : Bool) (h : List UInt8) (n : Int) (hr : rightL h n = true) : originP (textL sec h n) = some (sec, h, n) := by
  unfold textL
  rw [List.append_assoc]
  exact originP_yes (scheme_mark sec _) (origin_back sec h n hr)
theorem text_inj {s1 s2 : Bool} {h1 h2 : List UInt8} {n1 n2 : Int} (r1 : rightL h1 n1 = true) (r2 : rightL h2 n2 = true) (e : textL s1 h1 n1 = textL s2 h2 n2) : s1 = s2 ∧ h1 = h2 ∧ n1 = n2 := by
  have a := text_back s1 h1 n1 r1
  rw [e, text_back s2 h2 n2 r2] at a
  simp only [Option.some.injEq, Prod.mk.injEq] at a
  exact ⟨a.1.symm, a.2.1.symm, a.2.2.symm⟩
end Go.Proofs.YtclagicimiimfabDoor
