/- The program's small steps of the two sums: where a byte stands, turned bits, what MD5 mixes in at a step. -/
import Derived.Test.YtooaiamfbmjmnaaFmtU32
import Derived.Deep.QuietTactic
import Derived.BigQuiet
import Derived.WalkMore
import Derived.WalkSmall
namespace Go.Proofs.YtooaiamfbmjmnaaFmt
open Go.RowKit

def shiftN (o : Bool) (i n : Nat) : Nat := 8 * (if o then n - 1 - i else i)
theorem shift_any (o : Bool) (i n : Nat) (hi : i < n) (hn : n ≤ 8) (w : World) :
    Calls Tryf.prog 39 #[.bool o, .int .i64 i, .int .i64 n] w fun e w' => e = .returned (.int .i64 (shiftN o i n : Nat)) ∧ w' = w := by
  go_enter Tryf.func39, Tryf.ntmps39
  cases o
  · go_wp2
    go_ret
    exact ⟨by simp [shiftN], rfl⟩
  · go_wp2
    go_ret
    refine ⟨?_, rfl⟩
    simp [shiftN]
    omega

theorem and31 (x k : Nat) (h : x % 32 = k) (h2 : x < 18446744073709551616) : bits .and .u64 (x : Int) 31 = (k : Int) := by
  subst h
  have e := show bits .and .u64 (x : Int) 31 = IntKind.u64.wrap ((BitVec.ofInt 64 (x : Int) &&& BitVec.ofInt 64 ((31 : Nat) : Int)).toNat : Int) from rfl
  rw [e, BitVec.toNat_and, ofInt_u64 x h2, ofInt_u64 31 (by omega), show 31 = 2 ^ 5 - 1 from rfl, Nat.and_two_pow_sub_one_eq_mod]
  simp [IntKind.wrap, IntKind.bits, IntKind.signed]
  omega
theorem and31_turn (kk : Int) (k : Nat) (hk : k ≤ 31) (hkk : kk = k ∨ kk = (k : Int) - 32) : bits .and .u64 (IntKind.u64.wrap kk) 31 = (k : Int) := by
  rcases hkk with rfl | rfl
  · have : IntKind.u64.wrap (k : Int) = (k : Nat) := by simp [IntKind.wrap, IntKind.bits, IntKind.signed]; omega
    rw [this]
    exact and31 k k (by omega) (by omega)
  · have : IntKind.u64.wrap ((k : Int) - 32) = ((k + 18446744073709551584 : Nat) : Int) := by simp [IntKind.wrap, IntKind.bits, IntKind.signed]; omega
    rw [this]
    exact and31 _ k (by omega) (by omega)
set_option maxRecDepth 100000 in
theorem rotate_any (x k : Nat) (kk : Int) (hx : x < 4294967296) (hk : k ≤ 31) (hkk : Hid (kk = k ∨ kk = (k : Int) - 32)) (w : World) :
    Calls Tryf.prog 43 #[.int .u32 x, .int .i64 kk] w fun e w' => e = .returned (.int .u32 (rolN x k : Nat)) ∧ w' = w := by
  have hm := and31_turn kk k hk hkk.out
  go_enter Tryf.func43, Tryf.ntmps43
  go_wp2
  go_ret
  have e := rolU32 x k hx (by omega)
  have e2 : IntKind.u32.wrap ((x : Int) * 2 ^ k) = (x : Int) * 2 ^ k % 4294967296 := by simp [IntKind.wrap, IntKind.bits, IntKind.signed]
  rw [e2] at e
  rw [e]
  exact ⟨rfl, rfl⟩
theorem rol_any (x k : Int) (h0 : 0 ≤ x) (h1 : x < 4294967296) (hk0 : 0 ≤ k) (hk : k ≤ 31) (w : World) :
    Calls Tryf.prog 43 #[.int .u32 x, .int .i64 k] w fun e w' => ∃ r : Int, e = .returned (.int .u32 r) ∧ 0 ≤ r ∧ r < 4294967296 ∧ Hid (r = rolN x.toNat k.toNat) ∧ w' = w := by
  obtain ⟨n, rfl⟩ : ∃ n : Nat, x = n := ⟨x.toNat, by omega⟩
  obtain ⟨j, rfl⟩ : ∃ n : Nat, k = n := ⟨k.toNat, by omega⟩
  refine (rotate_any n j _ (by omega) (by omega) (.inl rfl) w).mono ?_
  rintro e w' ⟨rfl, rfl⟩
  have := rolN_lt n j (by omega) (by omega)
  exact ⟨_, rfl, by omega, by omega, rfl, rfl⟩
theorem right_any (x b r : Int) (h0 : 0 ≤ x) (h1 : x < 4294967296) (hb0 : 1 ≤ b) (hb : b ≤ 31) (w : World) (HR : Hid (r = rorN x.toNat b.toNat)) :
    Calls Tryf.prog 40 #[.int .u32 x, .int .i64 b] w fun e w' => e = .returned (.int .u32 r) ∧ w' = w := by
  obtain ⟨n, rfl⟩ : ∃ n : Nat, x = n := ⟨x.toNat, by omega⟩
  go_enter Tryf.func40, Tryf.ntmps40
  go_wp2_with (go_at_call 43; refine (rotate_any n (32 - b).toNat _ (by omega) (by omega) (.inr (by omega)) _).mono ?_; rintro e w' ⟨rfl, rfl⟩)
  go_ret
  refine ⟨?_, rfl⟩
  rw [HR.out, rorN]
  simp only [Int.toNat_natCast]
  have : (32 - b).toNat = 32 - b.toNat := by omega
  rw [this]
  rfl
theorem step_fin (w : World) (f g : Int) (F G : Nat) (hf : f = F) (hF : F < 4294967296) (hg : g = G) (hG : G < 16) :
    ∃ (f' : Int) (g' : Nat), Ending.returned (.tuple #[.int .u32 f, .int .i64 g]) = .returned (.tuple #[.int .u32 f', .int .i64 g']) ∧ 0 ≤ f' ∧ f' < 4294967296 ∧ g' < 16 ∧ Hid (f' = F) ∧ Hid (g' = G) ∧ w = w :=
  ⟨f, G, by rw [hg], by omega, by omega, hG, hf, rfl, rfl⟩
theorem umax : IntKind.u32.max = 4294967295 := rfl
set_option maxRecDepth 100000 in
theorem step_any (i : Nat) (hi : i < 64) (v : Four) (h : v.ok) (w : World) :
    Calls Tryf.prog 42 #[.int .i64 i, .int .u32 v.b, .int .u32 v.c, .int .u32 v.d] w fun e w' => ∃ (f : Int) (g : Nat), e = .returned (.tuple #[.int .u32 f, .int .i64 g]) ∧ 0 ≤ f ∧ f < 4294967296 ∧ g < 16 ∧ Hid (f = md5F i v) ∧ Hid (g = md5G i) ∧ w' = w := by
  have hF := md5F_lt i v h
  have hG : md5G i < 16 := Nat.mod_lt _ (by omega)
  have HF : Hid (md5F i v < 4294967296) := hF
  have HG : Hid (md5G i < 16) := hG
  clear hF hG
  obtain ⟨ha, hb, hc, hd⟩ := h
  obtain ⟨va, vb, vc, vd⟩ := v
  simp only at ha hb hc hd
  have nb := notN_lt vb
  have nd := notN_lt vd
  go_enter Tryf.func42, Tryf.ntmps42
  rcases (show i < 16 ∨ (16 ≤ i ∧ i < 32) ∨ (32 ≤ i ∧ i < 48) ∨ 48 ≤ i by omega) with hi1 | ⟨hi1, hi2⟩ | ⟨hi1, hi2⟩ | hi1
  · go_wp2
    go_ret2
    refine step_fin w _ _ _ _ ?_ HF.out ?_ HG.out
    · rw [umax, notU32 _ hb, andU32 _ _ hb hc, andU32 _ _ nb hd, orU32 _ _ (and32_lt hc) (and32_lt hd), md5F, if_pos hi1]
    · rw [md5G, if_pos hi1]; omega
  · go_wp2
    go_ret2
    refine step_fin w _ _ _ _ ?_ HF.out ?_ HG.out
    · rw [umax, notU32 _ hd, andU32 _ _ hd hb, andU32 _ _ nd hc, orU32 _ _ (and32_lt hb) (and32_lt hc), md5F, if_neg (by omega), if_pos hi2]
    · rw [md5G, if_neg (by omega), if_pos hi2]; omega
  · go_wp2
    go_ret2
    refine step_fin w _ _ _ _ ?_ HF.out ?_ HG.out
    · rw [xorU32 _ _ hb hc, xorU32 _ _ (xor32_lt hb hc) hd, md5F, if_neg (by omega), if_neg (by omega), if_pos hi2]
    · rw [md5G, if_neg (by omega), if_neg (by omega), if_pos hi2]; omega
  · go_wp2
    go_ret2
    refine step_fin w _ _ _ _ ?_ HF.out ?_ HG.out
    · rw [umax, notU32 _ hd, orU32 _ _ hb nd, xorU32 _ _ hc (or32_lt hb nd), md5F, if_neg (by omega), if_neg (by omega), if_neg (by omega)]
    · rw [md5G, if_neg (by omega), if_neg (by omega), if_neg (by omega)]; omega
end Go.Proofs.YtooaiamfbmjmnaaFmt
