/- MD5 and SHA-256 as the document says them, over lists of bytes and numbers below 2^32. -/
import Derived.Test.YtooaiamfbmjmnaaFmtHex
namespace Go.Proofs.YtooaiamfbmjmnaaFmt

def m32 : Nat := 4294967296
def rolN (n k : Nat) : Nat := n * 2 ^ k % 4294967296 + n * 2 ^ k / 4294967296
def notN (n : Nat) : Nat := 4294967295 - n
/-- Eight bytes of a number, the least ones first. -/
def le8 (n : Nat) : List UInt8 := (List.range 8).map fun i => UInt8.ofNat (n / 256 ^ i)
def zerosN (n : Nat) : Nat := (119 - n % 64) % 64
def padL (little : Bool) (s : List UInt8) : List UInt8 :=
  s ++ [128] ++ List.replicate (zerosN s.length) 0 ++ (if little then le8 (8 * s.length) else (le8 (8 * s.length)).reverse)
theorem le8_length (n : Nat) : (le8 n).length = 8 := by simp [le8]
theorem padL_length (little : Bool) (s : List UInt8) : (padL little s).length = (s.length + 72) / 64 * 64 := by
  unfold padL zerosN
  split <;> simp [le8_length] <;> omega
/-- Four bytes at a place, the least or the greatest first. -/
def wordAt (little : Bool) (l : List UInt8) (p : Nat) : Nat :=
  if little then (l.getD p 0).toNat + 256 * (l.getD (p + 1) 0).toNat + 65536 * (l.getD (p + 2) 0).toNat + 16777216 * (l.getD (p + 3) 0).toNat
  else (l.getD (p + 3) 0).toNat + 256 * (l.getD (p + 2) 0).toNat + 65536 * (l.getD (p + 1) 0).toNat + 16777216 * (l.getD p 0).toNat
theorem wordAt_lt (little : Bool) (l : List UInt8) (p : Nat) : wordAt little l p < 4294967296 := by
  have h0 := (l.getD p 0).toNat_lt
  have h1 := (l.getD (p + 1) 0).toNat_lt
  have h2 := (l.getD (p + 2) 0).toNat_lt
  have h3 := (l.getD (p + 3) 0).toNat_lt
  unfold wordAt
  split <;> omega
def le4 (n : Nat) : List UInt8 := [UInt8.ofNat n, UInt8.ofNat (n / 256), UInt8.ofNat (n / 65536), UInt8.ofNat (n / 16777216)]
def be4 (n : Nat) : List UInt8 := [UInt8.ofNat (n / 16777216), UInt8.ofNat (n / 65536), UInt8.ofNat (n / 256), UInt8.ofNat n]

/- MD5 -/
structure Four where
  a : Nat
  b : Nat
  c : Nat
  d : Nat
def Four.ok (v : Four) : Prop := v.a < 4294967296 ∧ v.b < 4294967296 ∧ v.c < 4294967296 ∧ v.d < 4294967296
def sinesL : List Nat := [3614090360, 3905402710, 606105819, 3250441966, 4118548399, 1200080426, 2821735955, 4249261313, 1770035416, 2336552879, 4294925233, 2304563134, 1804603682, 4254626195, 2792965006, 1236535329, 4129170786, 3225465664, 643717713, 3921069994, 3593408605, 38016083, 3634488961, 3889429448, 568446438, 3275163606, 4107603335, 1163531501, 2850285829, 4243563512, 1735328473, 2368359562, 4294588738, 2272392833, 1839030562, 4259657740, 2763975236, 1272893353, 4139469664, 3200236656, 681279174, 3936430074, 3572445317, 76029189, 3654602809, 3873151461, 530742520, 3299628645, 4096336452, 1126891415, 2878612391, 4237533241, 1700485571, 2399980690, 4293915773, 2240044497, 1873313359, 4264355552, 2734768916, 1309151649, 4149444226, 3174756917, 718787259, 3951481745]
def rootsL : List Nat := [1116352408, 1899447441, 3049323471, 3921009573, 961987163, 1508970993, 2453635748, 2870763221, 3624381080, 310598401, 607225278, 1426881987, 1925078388, 2162078206, 2614888103, 3248222580, 3835390401, 4022224774, 264347078, 604807628, 770255983, 1249150122, 1555081692, 1996064986, 2554220882, 2821834349, 2952996808, 3210313671, 3336571891, 3584528711, 113926993, 338241895, 666307205, 773529912, 1294757372, 1396182291, 1695183700, 1986661051, 2177026350, 2456956037, 2730485921, 2820302411, 3259730800, 3345764771, 3516065817, 3600352804, 4094571909, 275423344, 430227734, 506948616, 659060556, 883997877, 958139571, 1322822218, 1537002063, 1747873779, 1955562222, 2024104815, 2227730452, 2361852424, 2428436474, 2756734187, 3204031479, 3329325298]
def beginL : List Nat := [1779033703, 3144134277, 1013904242, 2773480762, 1359893119, 2600822924, 528734635, 1541459225]
def turnsL : List Nat := [7, 12, 17, 22, 5, 9, 14, 20, 4, 11, 16, 23, 6, 10, 15, 21]
def turnAt (i : Nat) : Nat := turnsL.getD (i / 16 * 4 + i % 4) 0
def md5F (i : Nat) (v : Four) : Nat :=
  if i < 16 then (v.b &&& v.c) ||| (notN v.b &&& v.d)
  else if i < 32 then (v.d &&& v.b) ||| (notN v.d &&& v.c)
  else if i < 48 then v.b ^^^ v.c ^^^ v.d
  else v.c ^^^ (v.b ||| notN v.d)
def md5G (i : Nat) : Nat := (if i < 16 then i else if i < 32 then 5 * i + 1 else if i < 48 then 3 * i + 5 else 7 * i) % 16
def md5T (l : List UInt8) (p i : Nat) (v : Four) : Nat := (md5F i v + v.a + sinesL.getD i 0 + wordAt true l (p + 4 * md5G i)) % 4294967296
def md5Step (l : List UInt8) (p i : Nat) (v : Four) : Four := ⟨v.d, (v.b + rolN (md5T l p i v) (turnAt i)) % 4294967296, v.b, v.c⟩
def md5Rounds (l : List UInt8) (p : Nat) (v : Four) : Nat → Four
  | 0 => v
  | i + 1 => md5Step l p i (md5Rounds l p v i)
def md5Add (u v : Four) : Four := ⟨(u.a + v.a) % 4294967296, (u.b + v.b) % 4294967296, (u.c + v.c) % 4294967296, (u.d + v.d) % 4294967296⟩
def md5Begin : Four := ⟨1732584193, 4023233417, 2562383102, 271733878⟩
def md5Blocks (l : List UInt8) : Nat → Four
  | 0 => md5Begin
  | k + 1 => md5Add (md5Blocks l k) (md5Rounds l (64 * k) (md5Blocks l k) 64)
def Four.bytes (v : Four) : List UInt8 := le4 v.a ++ le4 v.b ++ le4 v.c ++ le4 v.d
def md5L (s : List UInt8) : List UInt8 := (md5Blocks (padL true s) ((s.length + 72) / 64)).bytes
theorem md5_abc : md5L [97, 98, 99] = [0x90, 0x01, 0x50, 0x98, 0x3c, 0xd2, 0x4f, 0xb0, 0xd6, 0x96, 0x3f, 0x7d, 0x28, 0xe1, 0x7f, 0x72] := by decide +kernel
theorem notN_lt (n : Nat) : notN n < 4294967296 := by unfold notN; omega
theorem rolN_eq (n k : Nat) (hn : n < 4294967296) (hk : k ≤ 32) : rolN n k = (n * 2 ^ k % 4294967296) ||| (n / 2 ^ (32 - k)) := by
  have hp : (4294967296 : Nat) = 2 ^ k * 2 ^ (32 - k) := by
    rw [← Nat.pow_add]
    have : k + (32 - k) = 32 := by omega
    rw [this]
  have h1 : n * 2 ^ k / 4294967296 = n / 2 ^ (32 - k) := by
    rw [hp, Nat.mul_comm n, Nat.mul_div_mul_left _ _ (Nat.two_pow_pos k)]
  have h2 : n * 2 ^ k % 4294967296 = 2 ^ k * (n % 2 ^ (32 - k)) := by
    rw [hp, Nat.mul_comm n, Nat.mul_mod_mul_left]
  have h3 : n / 2 ^ (32 - k) < 2 ^ k := by
    apply Nat.div_lt_of_lt_mul
    rw [Nat.mul_comm, ← hp]
    exact hn
  unfold rolN
  rw [h1, h2, Nat.two_pow_add_eq_or_of_lt h3]
theorem rolN_lt (n k : Nat) (hn : n < 4294967296) (hk : k ≤ 32) : rolN n k < 4294967296 := by
  rw [rolN_eq n k hn hk]
  refine Nat.or_lt_two_pow (n := 32) (Nat.mod_lt _ (by decide)) (Nat.lt_of_le_of_lt (Nat.div_le_self _ _) hn)
theorem md5F_lt (i : Nat) (v : Four) (h : v.ok) : md5F i v < 4294967296 := by
  obtain ⟨ha, hb, hc, hd⟩ := h
  have e : (4294967296 : Nat) = 2 ^ 32 := by decide
  have n1 := notN_lt v.b
  have n2 := notN_lt v.d
  rw [e] at *
  unfold md5F
  split
  · exact Nat.or_lt_two_pow (Nat.and_lt_two_pow _ hc) (Nat.and_lt_two_pow _ hd)
  split
  · exact Nat.or_lt_two_pow (Nat.and_lt_two_pow _ hb) (Nat.and_lt_two_pow _ hc)
  split
  · exact Nat.xor_lt_two_pow (Nat.xor_lt_two_pow hb hc) hd
  · exact Nat.xor_lt_two_pow hc (Nat.or_lt_two_pow hb n2)
theorem md5Step_ok (l : List UInt8) (p i : Nat) (v : Four) (h : v.ok) : (md5Step l p i v).ok :=
  ⟨h.2.2.2, Nat.mod_lt _ (by decide), h.2.1, h.2.2.1⟩
theorem md5Rounds_ok (l : List UInt8) (p : Nat) (v : Four) (h : v.ok) : ∀ i, (md5Rounds l p v i).ok
  | 0 => h
  | i + 1 => md5Step_ok l p i _ (md5Rounds_ok l p v h i)
theorem md5Add_ok (u v : Four) : (md5Add u v).ok := ⟨Nat.mod_lt _ (by decide), Nat.mod_lt _ (by decide), Nat.mod_lt _ (by decide), Nat.mod_lt _ (by decide)⟩
theorem md5Blocks_ok (l : List UInt8) : ∀ k, (md5Blocks l k).ok
  | 0 => by simp [md5Blocks, md5Begin, Four.ok]
  | _ + 1 => md5Add_ok _ _

/- SHA-256 -/
def rorN (n k : Nat) : Nat := rolN n (32 - k)
def shaW (l : List UInt8) (p : Nat) : Nat → List Nat
  | 0 => []
  | i + 1 =>
    let w := shaW l p i
    w ++ [if i < 16 then wordAt false l (p + 4 * i) else
      let x := w.getD (i - 15) 0
      let y := w.getD (i - 2) 0
      (w.getD (i - 16) 0 + w.getD (i - 7) 0 + (rorN x 7 ^^^ rorN x 18 ^^^ x / 8) + (rorN y 17 ^^^ rorN y 19 ^^^ y / 1024)) % 4294967296]
def shaT (w : List Nat) (i : Nat) (v : List Nat) : Nat :=
  v.getD 7 0 + (rorN (v.getD 4 0) 6 ^^^ rorN (v.getD 4 0) 11 ^^^ rorN (v.getD 4 0) 25) + ((v.getD 4 0 &&& v.getD 5 0) ^^^ (notN (v.getD 4 0) &&& v.getD 6 0)) + rootsL.getD i 0 + w.getD i 0
def shaU (v : List Nat) : Nat :=
  (rorN (v.getD 0 0) 2 ^^^ rorN (v.getD 0 0) 13 ^^^ rorN (v.getD 0 0) 22) + ((v.getD 0 0 &&& v.getD 1 0) ^^^ (v.getD 0 0 &&& v.getD 2 0) ^^^ (v.getD 1 0 &&& v.getD 2 0))
def shaStep (w : List Nat) (i : Nat) (v : List Nat) : List Nat :=
  [(shaT w i v + shaU v) % 4294967296, v.getD 0 0, v.getD 1 0, v.getD 2 0, (v.getD 3 0 + shaT w i v) % 4294967296, v.getD 4 0, v.getD 5 0, v.getD 6 0]
def shaRounds (w : List Nat) (v : List Nat) : Nat → List Nat
  | 0 => v
  | i + 1 => shaStep w i (shaRounds w v i)
def shaAdd (u v : List Nat) : List Nat := (List.range 8).map fun i => (u.getD i 0 + v.getD i 0) % 4294967296
def shaBlocks (l : List UInt8) : Nat → List Nat
  | 0 => beginL
  | k + 1 => shaAdd (shaBlocks l k) (shaRounds (shaW l (64 * k) 64) (shaBlocks l k) 64)
def shaL (s : List UInt8) : List UInt8 := (shaBlocks (padL false s) ((s.length + 72) / 64)).flatMap be4
set_option maxRecDepth 100000 in
theorem sha_abc : shaL [97, 98, 99] = [0xba, 0x78, 0x16, 0xbf, 0x8f, 0x01, 0xcf, 0xea, 0x41, 0x41, 0x40, 0xde, 0x5d, 0xae, 0x22, 0x23, 0xb0, 0x03, 0x61, 0xa3, 0x96, 0x17, 0x7a, 0x9c, 0xb4, 0x10, 0xff, 0x61, 0xf2, 0x00, 0x15, 0xad] := by decide +kernel
end Go.Proofs.YtooaiamfbmjmnaaFmt
