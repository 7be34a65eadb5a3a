/- Words of 32 bits, as natural numbers. -/
import Derived.Test.YtooaiamfbmjmnaaFmtB32
namespace Go.Proofs.YtooaiamfbmjmnaaFmt
theorem wrapU32 (n : Nat) : IntKind.u32.wrap (n : Int) = ((n % 4294967296 : Nat) : Int) := by
  simp [IntKind.wrap, IntKind.bits, IntKind.signed]
theorem wrapU32_lt (n : Nat) (h : n < 4294967296) : IntKind.u32.wrap (n : Int) = (n : Int) := by
  rw [wrapU32, Nat.mod_eq_of_lt h]
theorem andU32 (a b : Nat) (ha : a < 4294967296) (hb : b < 4294967296) : bits .and .u32 (a : Int) (b : Int) = ((a &&& b : Nat) : Int) := by
  have hx : a &&& b < 2 ^ 32 := Nat.and_lt_two_pow _ (by omega)
  show IntKind.u32.wrap ((BitVec.ofInt 32 (a : Int) &&& BitVec.ofInt 32 (b : Int)).toNat : Int) = _
  rw [BitVec.toNat_and, ofInt_u32 a (by omega), ofInt_u32 b (by omega), wrapU32_lt _ (by omega)]
theorem orU32 (a b : Nat) (ha : a < 4294967296) (hb : b < 4294967296) : bits .or .u32 (a : Int) (b : Int) = ((a ||| b : Nat) : Int) := by
  have hx : a ||| b < 2 ^ 32 := Nat.or_lt_two_pow (by omega) (by omega)
  show IntKind.u32.wrap ((BitVec.ofInt 32 (a : Int) ||| BitVec.ofInt 32 (b : Int)).toNat : Int) = _
  rw [BitVec.toNat_or, ofInt_u32 a (by omega), ofInt_u32 b (by omega), wrapU32_lt _ (by omega)]
theorem xorU32 (a b : Nat) (ha : a < 4294967296) (hb : b < 4294967296) : bits .xor .u32 (a : Int) (b : Int) = ((a ^^^ b : Nat) : Int) := by
  have hx : a ^^^ b < 2 ^ 32 := Nat.xor_lt_two_pow (by omega) (by omega)
  show IntKind.u32.wrap ((BitVec.ofInt 32 (a : Int) ^^^ BitVec.ofInt 32 (b : Int)).toNat : Int) = _
  rw [BitVec.toNat_xor, ofInt_u32 a (by omega), ofInt_u32 b (by omega), wrapU32_lt _ (by omega)]
theorem xor_ones (n : Nat) (h : n < 4294967296) : 4294967295 ^^^ n = notN n := by
  have e : (4294967295 ^^^ n) = (~~~ (BitVec.ofNat 32 n)).toNat := by
    rw [← BitVec.allOnes_xor, BitVec.toNat_xor]
    simp [Nat.mod_eq_of_lt h]
  rw [e, BitVec.toNat_not]
  simp [notN, Nat.mod_eq_of_lt h]
theorem notU32 (n : Nat) (h : n < 4294967296) : bits .xor .u32 4294967295 (n : Int) = ((notN n : Nat) : Int) := by
  have := xorU32 4294967295 n (by omega) h
  rw [xor_ones n h] at this
  exact this
theorem rolU32 (n k : Nat) (hn : n < 4294967296) (hk : k ≤ 32) : bits .or .u32 (IntKind.u32.wrap ((n : Int) * 2 ^ k)) ((n : Int) / 2 ^ (32 - k)) = ((rolN n k : Nat) : Int) := by
  have e1 : (n : Int) * 2 ^ k = ((n * 2 ^ k : Nat) : Int) := by simp
  have e2 : (n : Int) / 2 ^ (32 - k) = ((n / 2 ^ (32 - k) : Nat) : Int) := by simp
  rw [e1, e2, wrapU32, orU32 _ _ (Nat.mod_lt _ (by decide)) (Nat.lt_of_le_of_lt (Nat.div_le_self _ _) hn), rolN_eq n k hn hk]
end Go.Proofs.YtooaiamfbmjmnaaFmt
