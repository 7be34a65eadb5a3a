/- Bytes as bits, six bits as a letter: the plain arithmetic of the document's own answer for 64 letters. -/
import Derived.Test.YthhbfnfgbonakaaFmtDec
import Derived.Test.YthhbfnfgbonakaaFmtFmt
import Derived.Test.YthhbfnfgbonakaaFmtParse
namespace Go.Proofs.YthhbfnfgbonakaaFmt
open Go.RowKit

def bitsL : List UInt8 → List UInt8
  | [] => []
  | c :: r => bits8 c.toNat ++ bitsL r
def zN : List UInt8 → Nat
  | [] => 0
  | [_] => 4
  | [_, _] => 2
  | _ :: _ :: _ :: r => zN r
def six : List UInt8 → List UInt8
  | b0 :: b1 :: b2 :: b3 :: b4 :: b5 :: r => let64 (bval [b0, b1, b2, b3, b4, b5]) :: six r
  | _ => []

theorem bitsL_snoc (l : List UInt8) (c : UInt8) : bitsL (l ++ [c]) = bitsL l ++ bits8 c.toNat := by
  induction l with
  | nil => simp [bitsL]
  | cons a r ih => simp only [List.cons_append, bitsL, ih, List.append_assoc]
theorem bitsL_length (l : List UInt8) : (bitsL l).length = 8 * l.length := by
  induction l with
  | nil => rfl
  | cons a r ih =>
    have : (bits8 a.toNat).length = 8 := rfl
    simp only [bitsL, List.length_append, ih, List.length_cons, this]; omega
theorem bit_01 (n k : Nat) : bit n k = 48 ∨ bit n k = 49 := by unfold bit; split <;> simp
theorem bits8_01 (n : Nat) : ∀ c ∈ bits8 n, c = 48 ∨ c = 49 := by
  intro c hc
  simp only [bits8, List.mem_cons, List.not_mem_nil, or_false] at hc
  rcases hc with rfl | rfl | rfl | rfl | rfl | rfl | rfl | rfl <;> exact bit_01 _ _
theorem bitsL_01 (l : List UInt8) : ∀ c ∈ bitsL l, c = 48 ∨ c = 49 := by
  induction l with
  | nil => intro c hc; cases hc
  | cons a r ih =>
    intro c hc
    rcases List.mem_append.1 hc with hc | hc
    · exact bits8_01 _ c hc
    · exact ih c hc
theorem zN_mod : ∀ l : List UInt8, (8 * l.length + zN l) % 6 = 0 ∧ zN l < 6
  | [] => by decide
  | [_] => by simp [zN]
  | [_, _] => by simp [zN]
  | _ :: _ :: _ :: r => by
    have := zN_mod r
    simp only [zN, List.length_cons]
    omega

theorem bval_append (x y : List UInt8) : bval (x ++ y) = bval x * 2 ^ y.length + bval y := by
  suffices h : ∀ r : List UInt8, bval (x ++ r.reverse) = bval x * 2 ^ r.length + bval r.reverse by
    have := h y.reverse
    simpa using this
  intro r
  induction r with
  | nil => simp [bval]
  | cons c r ih =>
    rw [List.reverse_cons, ← List.append_assoc, bval_snoc, ih, bval_snoc, List.length_cons, Nat.pow_succ]
    rw [Nat.add_mul, ← Nat.mul_assoc, Nat.add_assoc]
theorem hi6 (a : Nat) (h : a < 256) : bval [bit a 7, bit a 6, bit a 5, bit a 4, bit a 3, bit a 2] = a / 4 := by
  have : ∀ a : Fin 256, bval [bit a 7, bit a 6, bit a 5, bit a 4, bit a 3, bit a 2] = a / 4 := by decide +kernel
  exact this ⟨a, h⟩
theorem lo2 (a : Nat) (h : a < 256) : bval [bit a 1, bit a 0] = a % 4 := by
  have : ∀ a : Fin 256, bval [bit a 1, bit a 0] = a.val % 4 := by decide +kernel
  exact this ⟨a, h⟩
theorem hi4 (a : Nat) (h : a < 256) : bval [bit a 7, bit a 6, bit a 5, bit a 4] = a / 16 := by
  have : ∀ a : Fin 256, bval [bit a 7, bit a 6, bit a 5, bit a 4] = a.val / 16 := by decide +kernel
  exact this ⟨a, h⟩
theorem lo4 (a : Nat) (h : a < 256) : bval [bit a 3, bit a 2, bit a 1, bit a 0] = a % 16 := by
  have : ∀ a : Fin 256, bval [bit a 3, bit a 2, bit a 1, bit a 0] = a.val % 16 := by decide +kernel
  exact this ⟨a, h⟩
theorem hi2 (a : Nat) (h : a < 256) : bval [bit a 7, bit a 6] = a / 64 := by
  have : ∀ a : Fin 256, bval [bit a 7, bit a 6] = a.val / 64 := by decide +kernel
  exact this ⟨a, h⟩
theorem lo6 (a : Nat) (h : a < 256) : bval [bit a 5, bit a 4, bit a 3, bit a 2, bit a 1, bit a 0] = a % 64 := by
  have : ∀ a : Fin 256, bval [bit a 5, bit a 4, bit a 3, bit a 2, bit a 1, bit a 0] = a.val % 64 := by decide +kernel
  exact this ⟨a, h⟩
theorem mid1 (a b : Nat) (ha : a < 256) (hb : b < 256) : bval [bit a 1, bit a 0, bit b 7, bit b 6, bit b 5, bit b 4] = a % 4 * 16 + b / 16 := by
  have := bval_append [bit a 1, bit a 0] [bit b 7, bit b 6, bit b 5, bit b 4]
  rw [lo2 a ha, hi4 b hb] at this
  exact this
theorem mid2 (b c : Nat) (hb : b < 256) (hc : c < 256) : bval [bit b 3, bit b 2, bit b 1, bit b 0, bit c 7, bit c 6] = b % 16 * 4 + c / 64 := by
  have := bval_append [bit b 3, bit b 2, bit b 1, bit b 0] [bit c 7, bit c 6]
  rw [lo4 b hb, hi2 c hc] at this
  exact this
theorem end1 (a : Nat) (ha : a < 256) : bval [bit a 1, bit a 0, 48, 48, 48, 48] = a % 4 * 16 := by
  have := bval_append [bit a 1, bit a 0] [48, 48, 48, 48]
  rw [lo2 a ha] at this
  exact this
theorem end2 (b : Nat) (hb : b < 256) : bval [bit b 3, bit b 2, bit b 1, bit b 0, 48, 48] = b % 16 * 4 := by
  have := bval_append [bit b 3, bit b 2, bit b 1, bit b 0] [48, 48]
  rw [lo4 b hb] at this
  exact this

theorem six_core : ∀ l : List UInt8, six (bitsL l ++ List.replicate (zN l) 48) = core l
  | [] => rfl
  | [a] => by
    have ha := a.toNat_lt
    simp only [bitsL, zN, bits8, List.replicate_succ, List.replicate_zero, List.append_nil, List.cons_append, List.nil_append, six, hi6 _ ha, end1 _ ha, core, grp, val1, List.take_succ_cons, List.take_zero]
    rw [show a.toNat * 65536 / 262144 % 64 = a.toNat / 4 by omega, show a.toNat * 65536 / 4096 % 64 = a.toNat % 4 * 16 by omega]
  | [a, b] => by
    have ha := a.toNat_lt
    have hb := b.toNat_lt
    simp only [bitsL, zN, bits8, List.replicate_succ, List.replicate_zero, List.append_nil, List.cons_append, List.nil_append, six, hi6 _ ha, mid1 _ _ ha hb, end2 _ hb, core, grp, val2, List.take_succ_cons, List.take_zero, List.length_cons, List.length_nil]
    rw [if_pos (by omega), show (a.toNat * 65536 + b.toNat * 256) / 262144 % 64 = a.toNat / 4 by omega, show (a.toNat * 65536 + b.toNat * 256) / 4096 % 64 = a.toNat % 4 * 16 + b.toNat / 16 by omega, show (a.toNat * 65536 + b.toNat * 256) / 64 % 64 = b.toNat % 16 * 4 by omega]
  | a :: b :: c :: r => by
    have ha := a.toNat_lt
    have hb := b.toNat_lt
    have hc := c.toNat_lt
    have ih := six_core r
    simp only [bitsL, zN, bits8, List.cons_append, List.nil_append, six, hi6 _ ha, mid1 _ _ ha hb, mid2 _ _ hb hc, lo6 _ hc, core, grp, val3, List.length_cons, List.length_nil, ih]
    rw [if_pos (by omega), if_pos (by omega), show (a.toNat * 65536 + b.toNat * 256 + c.toNat) / 262144 % 64 = a.toNat / 4 by omega, show (a.toNat * 65536 + b.toNat * 256 + c.toNat) / 4096 % 64 = a.toNat % 4 * 16 + b.toNat / 16 by omega,
      show (a.toNat * 65536 + b.toNat * 256 + c.toNat) / 64 % 64 = b.toNat % 16 * 4 + c.toNat / 64 by omega, show (a.toNat * 65536 + b.toNat * 256 + c.toNat) % 64 = c.toNat % 64 by omega]

theorem six_step (b : List UInt8) (h : 6 ≤ b.length) : six b = let64 (bval (b.take 6)) :: six (b.drop 6) := by
  match b, h with
  | b0 :: b1 :: b2 :: b3 :: b4 :: b5 :: r, _ => rfl
/-- How many marks are still to be laid. -/
theorem pad_rep (l : List UInt8) : ∃ p, pad l = List.replicate p 61 ∧ p ≤ 2 ∧ ((core l).length + p) % 4 = 0 := by
  have h := enc_length l
  rw [enc_core, List.length_append] at h
  rcases pad_cases l with e | e | e
  · exact ⟨0, e, by omega, by rw [e] at h; simp at h; omega⟩
  · exact ⟨1, e, by omega, by rw [e] at h; simp at h; omega⟩
  · exact ⟨2, e, by omega, by rw [e] at h; simp at h; omega⟩
theorem core_len (l : List UInt8) : (core l).length ≤ (l.length + 2) / 3 * 4 := by
  have h := enc_length l
  rw [enc_core, List.length_append] at h
  omega
end Go.Proofs.YthhbfnfgbonakaaFmt
