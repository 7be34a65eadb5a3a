/- The document's own small steps of the two sums: turns, complements, four bytes as a number, a number as digits. -/
import Derived.Test.YtooaiamfbmjmnaaFmtFmt8x
import Derived.Test.YtooaiamfbmjmnaaFmtArr
import Derived.Deep.QuietTactic
import Derived.BigQuiet
import Derived.WalkMore
import Derived.WalkSmall
namespace Go.Proofs.YtooaiamfbmjmnaaFmt
open Go.RowKit
open Go.Extern.Stop Go.Stop Go.Extern

theorem refNot (n : Int) (h0 : 0 ≤ n) (h1 : n < 4294967296) (w : World) :
    Calls Tryf.prog 34 #[.int .i64 n] w fun e w' => e = .returned (.int .i64 (4294967295 - n)) ∧ w' = w := by
  go_enter Tryf.func34, Tryf.ntmps34
  go_wp2
  go_ret
  exact ⟨rfl, rfl⟩

set_option maxHeartbeats 800000 in
theorem refRol (n k : Int) (h0 : 0 ≤ n) (h1 : n < 4294967296) (hk0 : 0 ≤ k) (hk : k ≤ 31) (w : World) :
    Calls Tryf.prog 36 #[.int .i64 n, .int .i64 k] w fun e w' => ∃ r : Int, e = .returned (.int .i64 r) ∧ 0 ≤ r ∧ r < 4294967296 ∧ Hid (r = rolN n.toNat k.toNat) ∧ w' = w := by
  go_enter Tryf.func36, Tryf.ntmps36
  go_wp2
  go_loop [5, 7] (fun p i => ∃ (x : Int) (j : Nat), (j : Int) ≤ k ∧ i = .int .i64 j ∧ p = .int .i64 x ∧ 1 ≤ x ∧ x ≤ 2147483648 ∧ Hid (x = ((2 ^ j : Nat) : Int))) (fun _ i => k.toNat - (intOf i).toNat)
  case atStart => exact ⟨1, 0, by omega, rfl, rfl, by omega, by omega, rfl⟩
  case round =>
    obtain ⟨x, j, hj, rfl, rfl, h2, h3, HX⟩ := hrel
    by_cases hlt : (j : Int) < k
    · have hx2 : x * 2 ≤ 2147483648 := by
        have h4 : (2 : Nat) ^ (j + 1) ≤ 2 ^ 31 := Nat.pow_le_pow_right (by decide) (by omega)
        have h5 := HX.out
        rw [Nat.pow_succ] at h4
        omega
      go_wp2
      go_round
      case rel => exact ⟨x * 2, j + 1, by omega, by go_num, rfl, by omega, by omega, by show _ = _; rw [HX.out, Nat.pow_succ]; push_cast; rfl⟩
      case measure => simp [intOf]; omega
    · have hjk : (j : Int) = k := by omega
      subst hjk
      have hm0 : 0 ≤ n * x := Int.mul_nonneg (by omega) (by omega)
      have hm1 : n * x < 9223372036854775808 := by
        have : n * x ≤ 4294967295 * 2147483648 := Int.mul_le_mul (by omega) h3 (by omega) (by omega)
        omega
      go_wp2
      go_ret
      have hr : n * x % 4294967296 + n * x / 4294967296 = (rolN n.toNat j : Int) := by
        have hq : n * x = ((n.toNat * 2 ^ j : Nat) : Int) := by
          rw [HX.out, Int.natCast_mul, Int.toNat_of_nonneg h0]
        rw [hq]
        unfold rolN
        generalize n.toNat * 2 ^ j = q
        omega
      have hlt2 := rolN_lt n.toNat j (by omega) (by omega)
      exact ⟨_, rfl, by omega, by omega, hr, rfl⟩

theorem refRor (n k : Int) (h0 : 0 ≤ n) (h1 : n < 4294967296) (hk0 : 1 ≤ k) (hk : k ≤ 32) (w : World) :
    Calls Tryf.prog 33 #[.int .i64 n, .int .i64 k] w fun e w' => ∃ r : Int, e = .returned (.int .i64 r) ∧ 0 ≤ r ∧ r < 4294967296 ∧ Hid (r = rorN n.toNat k.toNat) ∧ w' = w := by
  go_enter Tryf.func33, Tryf.ntmps33
  go_wp2_with (go_at_call 36; refine (refRol n (32 - k) h0 h1 (by omega) (by omega) _).mono ?_; rintro e w1 ⟨r, rfl, hr0, hr1, HR, rfl⟩)
  go_ret
  refine ⟨r, rfl, hr0, hr1, ?_, rfl⟩
  show r = _
  rw [HR.out, rorN]
  congr 2
  omega

def part (little : Bool) (L : List UInt8) (p : Nat) : Nat → Nat
  | 0 => 0
  | j + 1 => part little L p j * 256 + (L.getD (p + (if little then 3 - j else j)) 0).toNat
theorem part_four (little : Bool) (L : List UInt8) (p : Nat) : part little L p 4 = wordAt little L p := by
  cases little <;> simp [part, wordAt] <;> omega
theorem part_lt (little : Bool) (L : List UInt8) (p : Nat) : ∀ j, part little L p j < 256 ^ j
  | 0 => by simp [part]
  | j + 1 => by
    have := part_lt little L p j
    have h := (L.getD (p + (if little then 3 - j else j)) 0).toNat_lt
    rw [part, Nat.pow_succ]
    omega
set_option maxHeartbeats 800000 in
set_option maxRecDepth 100000 in
theorem refNumber (little : Bool) (L : List UInt8) (B p len cap : Nat) (hl : 4 ≤ len) (hp : p + 4 ≤ L.length) (hc : len ≤ 2000) (w : World) (HC : Hid (Cells w B L)) :
    Calls Tryf.prog 32 #[.slice (some ⟨B, p, none⟩) len cap, .bool little] w fun e w' => ∃ r : Int, e = .returned (.int .i64 r) ∧ 0 ≤ r ∧ r < 4294967296 ∧ Hid (r = wordAt little L p) ∧ w' = w := by
  go_enter Tryf.func32, Tryf.ntmps32
  go_wp2
  go_loop [5, 8] (fun n i => ∃ (x : Int) (j : Nat), j ≤ 4 ∧ i = .int .i64 j ∧ n = .int .i64 x ∧ 0 ≤ x ∧ x < 4294967296 ∧ Hid (x = part little L p j)) (fun _ i => 4 - (intOf i).toNat)
  case atStart => exact ⟨0, 0, by omega, rfl, rfl, by omega, by omega, rfl⟩
  case round =>
    obtain ⟨x, j, hj, rfl, rfl, hx0, hx1, HX⟩ := hrel
    by_cases hlt : j < 4
    · have hx2 : x < 16777216 := by
        have h1 := part_lt little L p j
        have h2 : 256 ^ j ≤ 256 ^ 3 := Nat.pow_le_pow_right (by decide) (by omega)
        rw [HX.out]
        omega
      obtain ⟨c, hc1⟩ : ∃ c : UInt8, L[p + j] = c := ⟨_, rfl⟩
      obtain ⟨d, hd1⟩ : ∃ d : UInt8, L[p + (3 - j)] = d := ⟨_, rfl⟩
      have hcell := HC.out (p + j) (by omega)
      have hcelld := HC.out (p + (3 - j)) (by omega)
      rw [hc1] at hcell
      rw [hd1] at hcelld
      have hcl : (c.toNat : Int) < 256 := by have := c.toNat_lt; omega
      have hdl : (d.toNat : Int) < 256 := by have := d.toNat_lt; omega
      cases little
      · have HN : Hid (part false L p (j + 1) = part false L p j * 256 + c.toNat) := by
          show _ = _
          rw [part, List.getD_eq_getElem?_getD, List.getElem?_eq_getElem (by simp; omega)]
          simp [hc1]
        clear hc1 hd1
        go_wp2
        go_round
        case rel => exact ⟨x * 256 + c.toNat, j + 1, by omega, by go_num, rfl, by omega, by omega, by show _ = _; rw [HN.out, HX.out]; push_cast; rfl⟩
        case measure => simp [intOf]; omega
      · have HN : Hid (part true L p (j + 1) = part true L p j * 256 + d.toNat) := by
          show _ = _
          rw [part, List.getD_eq_getElem?_getD, List.getElem?_eq_getElem (by simp; omega)]
          simp [hd1]
        clear hc1 hd1
        go_wp2
        go_round
        case rel => exact ⟨x * 256 + d.toNat, j + 1, by omega, by go_num, rfl, by omega, by omega, by show _ = _; rw [HN.out, HX.out]; push_cast; rfl⟩
        case measure => simp [intOf]; omega
    · obtain rfl : j = 4 := by omega
      go_wp2
      go_ret
      exact ⟨x, rfl, hx0, hx1, by rw [← part_four]; exact HX, rfl⟩

theorem hexL_le (n : Nat) (a b c d : ByteArray) (t : ByteArray) (ht : t = bs (hexL (be4 n))) (ha : a = t.extract 6 8) (hb : b = t.extract 4 6) (hc : c = t.extract 2 4) (hd : d = t.extract 0 2) : a ++ b ++ c ++ d = bs (hexL (le4 n)) := by
  subst ha hb hc hd ht
  apply ByteArray.ext
  apply Array.ext'
  simp [ByteArray.data_append, bs, be4, le4, hexL]
attribute [local go_sem] call16 fguard fm08x fm08x' op3x
set_option maxRecDepth 100000 in
set_option maxHeartbeats 800000 in
theorem refDigits (F : Interp) (little : Bool) (n : Int) (h0 : 0 ≤ n) (h1 : n < 4294967296) (w : World) (hF : F.told.answers w.tape) :
    Calls Tryf.prog 35 #[.int .i64 n, .bool little] w fun e w' => ∃ o : ByteArray, e = .returned (.string o) ∧ o.size = 8 ∧ Hid (o = bs (hexL (if little then le4 n.toNat else be4 n.toNat))) ∧ Below w.heap.size w w' := by
  have en : (n % 18446744073709551616).toNat = n.toNat := by omega
  have ht := congrArg FmtStop.textOf (answers_open hF w.drawn "fmt.Sprintf" [[37, 48, 56, 120], shape3, digits 8 n.toNat] 0 0)
  rw [told08x F _ (by omega)] at ht
  obtain ⟨t, hT⟩ : ∃ t : ByteArray, bs (hexL (be4 n.toNat)) = t := ⟨_, rfl⟩
  have HT : Hid (t = bs (hexL (be4 n.toNat))) := hT.symm
  rw [hT] at ht
  clear hT
  have htz : t.size = 8 := by rw [HT.out]; rfl
  cases little
  · go_enter Tryf.func35, Tryf.ntmps35
    go_wp2
    go_ret
    exact ⟨t, rfl, htz, HT, ((Below.refl _ _).alloc (Nat.le_refl _) _).drew⟩
  · go_enter Tryf.func35, Tryf.ntmps35
    go_wp2
    go_quiet (fail)
    go_wp2
    go_ret
    have e := hexL_le n.toNat _ _ _ _ t HT.out rfl rfl rfl rfl
    exact ⟨_, rfl, by rw [e]; rfl, e, below_drewN ((Below.refl _ _).alloc (Nat.le_refl _) _) _⟩
end Go.Proofs.YtooaiamfbmjmnaaFmt
