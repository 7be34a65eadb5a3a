/- Numbers by hexadecimal digits, eight at least. -/
import Derived.Test.YtooaiamfbmjmnaaFmtHex
namespace Go.Proofs.YtooaiamfbmjmnaaFmt

/-- A number's digits, with room for so many. -/
def hexF : Nat → Nat → List UInt8
  | 0, _ => []
  | f + 1, n => if n < 16 then [dig n] else hexF f (n / 16) ++ [dig (n % 16)]
def hexD (n : Nat) : List UInt8 := hexF 16 n
def countL (n : Nat) : List UInt8 := List.replicate (8 - (hexD n).length) 48 ++ hexD n
theorem hexF_len : ∀ (f n : Nat), (hexF f n).length ≤ f
  | 0, n => Nat.le_refl _
  | f + 1, n => by
    unfold hexF
    split
    · simp
    · have := hexF_len f (n / 16)
      simp
      omega
theorem hexD_len (n : Nat) : (hexD n).length ≤ 16 := hexF_len 16 n
theorem hexD_pos (n : Nat) : 1 ≤ (hexD n).length := by
  unfold hexD hexF
  split <;> simp
theorem countL_len (n : Nat) : (countL n).length ≤ 16 := by
  have := hexD_len n
  unfold countL
  rw [List.length_append, List.length_replicate]
  omega
/-- The last k digits are S, what is left is u. -/
def HexAt (n k u : Nat) (S : List UInt8) : Prop := hexD n = hexF (16 - k) u ++ S ∧ S.length = k ∧ u < 16 ^ (16 - k) ∧ k ≤ 15
theorem hexAt_start (n : Nat) (h : n < 18446744073709551616) : HexAt n 0 n [] := ⟨by rw [List.append_nil]; rfl, rfl, by simpa using h, by omega⟩
theorem hexAt_step {n k u : Nat} {S : List UInt8} (h : HexAt n k u S) (hu : 16 ≤ u) : HexAt n (k + 1) (u / 16) (dig (u % 16) :: S) := by
  obtain ⟨h1, h2, h3, h4⟩ := h
  have hk : k ≤ 14 := by
    rcases Nat.lt_or_ge k 15 with h | h
    · omega
    · have : k = 15 := by omega
      subst this
      simp at h3
      omega
  obtain ⟨f, hf⟩ : ∃ f, 16 - k = f + 1 := ⟨15 - k, by omega⟩
  have hf2 : 16 - (k + 1) = f := by omega
  refine ⟨?_, by simp [h2], ?_, by omega⟩
  · rw [h1, hf, hf2, hexF, if_neg (by omega), List.append_assoc]
    rfl
  · rw [hf2]
    rw [hf, Nat.pow_succ] at h3
    exact (Nat.div_lt_iff_lt_mul (by omega)).2 h3
theorem hexAt_end {n k u : Nat} {S : List UInt8} (h : HexAt n k u S) (hu : u < 16) : hexD n = dig u :: S := by
  obtain ⟨h1, h2, h3, h4⟩ := h
  obtain ⟨f, hf⟩ : ∃ f, 16 - k = f + 1 := ⟨15 - k, by omega⟩
  rw [h1, hf, hexF, if_pos hu]
  rfl
/-- Just k digits. -/
def fixN : Nat → Nat → List UInt8
  | 0, _ => []
  | k + 1, n => fixN k (n / 16) ++ [dig (n % 16)]
theorem fixN_len : ∀ (k n : Nat), (fixN k n).length = k
  | 0, n => rfl
  | k + 1, n => by rw [fixN, List.length_append, fixN_len k]; rfl
theorem fixN_zero : ∀ k : Nat, fixN k 0 = List.replicate k 48
  | 0 => rfl
  | k + 1 => by rw [fixN, Nat.zero_div, fixN_zero k, List.replicate_succ']; rfl
theorem fixN_hexF : ∀ (k f n : Nat), 1 ≤ k → k ≤ f → n < 16 ^ k → List.replicate (k - (hexF f n).length) 48 ++ hexF f n = fixN k n
  | 0, f, n, h, _, _ => by omega
  | k + 1, 0, n, _, h, _ => by omega
  | k + 1, f + 1, n, _, h, hn => by
    rw [hexF, fixN]
    by_cases h16 : n < 16
    · rw [if_pos h16, Nat.div_eq_of_lt h16, fixN_zero, Nat.mod_eq_of_lt h16]
      rfl
    · rw [if_neg h16]
      have hk : 1 ≤ k := by
        rcases Nat.eq_zero_or_pos k with h0 | h0
        · subst h0; simp at hn; omega
        · exact h0
      have hd : n / 16 < 16 ^ k := by
        rw [Nat.pow_succ] at hn
        exact (Nat.div_lt_iff_lt_mul (by omega)).2 hn
      have ih := fixN_hexF k f (n / 16) hk (by omega) hd
      rw [← ih, List.length_append, List.length_singleton, Nat.add_sub_add_right, List.append_assoc]
theorem countL_fix (n : Nat) (h : n < 4294967296) : countL n = fixN 8 n := fixN_hexF 8 16 n (by omega) (by omega) (by simpa using h)
theorem countL_eight (n : Nat) (h : n < 4294967296) : (countL n).length = 8 := by rw [countL_fix n h, fixN_len]
theorem less_snoc : ∀ (x y : List UInt8) (c d : UInt8), x.length = y.length → Op.bytesLess (x ++ [c]) (y ++ [d]) = (Op.bytesLess x y || (x == y && decide (c < d)))
  | [], [], c, d, _ => by simp [Op.bytesLess]
  | [], b :: y, c, d, h => by simp at h
  | a :: x, [], c, d, h => by simp at h
  | a :: x, b :: y, c, d, h => by
    have ih := less_snoc x y c d (by simpa using h)
    simp only [List.cons_append, Op.bytesLess, ih]
    by_cases hab : a < b
    · simp [hab]
    · by_cases he : a = b
      · subst he; simp
      · have e : (a == b) = false := beq_false_of_ne he
        simp [hab, e]
theorem dig_lt (a b : Nat) (ha : a < 16) (hb : b < 16) : decide (dig a < dig b) = decide (a < b) := by
  have : ∀ a b : Fin 16, decide (dig a.val < dig b.val) = decide (a.val < b.val) := by decide
  exact this ⟨a, ha⟩ ⟨b, hb⟩
theorem dig_eq (a b : Nat) (ha : a < 16) (hb : b < 16) : (dig a == dig b) = decide (a = b) := by
  have : ∀ a b : Fin 16, (dig a.val == dig b.val) = decide (a.val = b.val) := by decide
  exact this ⟨a, ha⟩ ⟨b, hb⟩
theorem snoc_eq (x y : List UInt8) (c d : UInt8) (h : x.length = y.length) : ((x ++ [c]) == (y ++ [d])) = ((x == y) && (c == d)) := by
  rw [Bool.eq_iff_iff]
  simp only [beq_iff_eq, Bool.and_eq_true]
  constructor
  · intro e
    have := List.append_inj e h
    exact ⟨this.1, by simpa using this.2⟩
  · rintro ⟨rfl, rfl⟩; rfl
theorem fixN_ord : ∀ (k a b : Nat), a < 16 ^ k → b < 16 ^ k → (fixN k a == fixN k b) = decide (a = b) ∧ Op.bytesLess (fixN k a) (fixN k b) = decide (a < b)
  | 0, a, b, ha, hb => by
    have h1 : a = 0 := by simpa using ha
    have h2 : b = 0 := by simpa using hb
    subst h1 h2
    exact ⟨rfl, rfl⟩
  | k + 1, a, b, ha, hb => by
    rw [Nat.pow_succ] at ha hb
    have ha' : a / 16 < 16 ^ k := (Nat.div_lt_iff_lt_mul (by omega)).2 ha
    have hb' : b / 16 < 16 ^ k := (Nat.div_lt_iff_lt_mul (by omega)).2 hb
    obtain ⟨h1, h2⟩ := fixN_ord k (a / 16) (b / 16) ha' hb'
    have hl : (fixN k (a / 16)).length = (fixN k (b / 16)).length := by rw [fixN_len, fixN_len]
    rw [fixN, fixN, snoc_eq _ _ _ _ hl, less_snoc _ _ _ _ hl, h1, h2, dig_eq _ _ (by omega) (by omega), dig_lt _ _ (by omega) (by omega)]
    constructor
    · rw [← Bool.decide_and]; congr 1; apply propext; omega
    · rw [← Bool.decide_and, ← Bool.decide_or]; congr 1; apply propext; omega
theorem countL_ord (a b : Nat) (ha : a < 4294967296) (hb : b < 4294967296) : (countL a == countL b) = decide (a = b) ∧ Op.bytesLess (countL a) (countL b) = decide (a < b) := by
  rw [countL_fix a ha, countL_fix b hb]
  exact fixN_ord 8 a b (by simpa using ha) (by simpa using hb)
end Go.Proofs.YtooaiamfbmjmnaaFmt
