/- What fmt writes of a number below 2^32 as eight digits: the digits of its four bytes. -/
import Derived.Test.YtooaiamfbmjmnaaFmtSm
import Derived.Stop.CallBack
import Derived.Stop.IfaceNil
import Derived.Stop.Texts
import Derived.Stop.FmtTextKit
import Derived.Stop.FmtTextBases
import Derived.Stop.JoinedTold
namespace Go.Proofs.YtooaiamfbmjmnaaFmt
open Go.RowKit
open Go.Extern.Stop Go.Stop Go.Extern

theorem call16 (args : Array Value) (w : World) : (callFunc 51 args).run Tryf.prog w = ((FmtStop.sprintf #[9, 112] #[9] args).run Tryf.prog w).andThen fun v w' => .ok (.value v) w' :=
  run_callFunc_extern Tryf.func51 (by kernel_rfl) (by kernel_rfl) (by kernel_rfl) (by kernel_rfl) args w
theorem fguard (name : String) (w : World) : (FmtStop.guard name).run Tryf.prog w = .ok () w := by kernel_rfl
theorem fm08x (w : World) : (FmtDoors.printed ⟨#[37, 48, 56, 120]⟩ 1).run Tryf.prog w = .ok [(0, 120, false)] w := by kernel_rfl
theorem fm08x' : FmtStop.printed? ⟨#[37, 48, 56, 120]⟩ 1 = some [(0, 120, false)] := by kernel_rfl
def shape3 : List UInt8 := [5, 3, 0, 0, 0, 0, 0, 0, 0, 105, 110, 116]
theorem op3x (name : String) (x : Int) (w : World) : (FmtStop.operand name false 120 false (.iface 3 (.int .i64 x))).run Tryf.prog w = .ok (shape3, Go.Extern.Stop.digits 8 (x % 2 ^ 64).toNat) w := by kernel_rfl

theorem digit_dig (d : Nat) (h : d < 16) : FmtText.digit false d = dig d := by
  have : ∀ d : Fin 16, FmtText.digit false d.val = dig d.val := by decide
  exact this ⟨d, h⟩
def hexN : Nat → Nat → List UInt8
  | 0, _ => []
  | k + 1, n => hexN k (n / 16) ++ [dig (n % 16)]
theorem hexN_zero : ∀ k, hexN k 0 = List.replicate k 48
  | 0 => rfl
  | k + 1 => by
    rw [hexN, Nat.zero_div, hexN_zero k, List.replicate_succ']
    rfl
theorem digitsFrom_hexN : ∀ (k fuel n : Nat) (acc : List UInt8), 1 ≤ k → k ≤ fuel → n < 16 ^ k → ∃ d : List UInt8, FmtText.digitsFrom 16 false fuel n acc = d ++ acc ∧ d.length ≤ k ∧ List.replicate (k - d.length) 48 ++ d = hexN k n
  | 0, _, _, _, h, _, _ => absurd h (by omega)
  | k + 1, 0, _, _, _, h, _ => absurd h (by omega)
  | k + 1, fuel + 1, n, acc, _, hf, hn => by
    rw [FmtText.digitsFrom]
    split
    · rename_i h16
      refine ⟨[FmtText.digit false n], rfl, by simp, ?_⟩
      rw [hexN, Nat.div_eq_of_lt h16, hexN_zero, Nat.mod_eq_of_lt h16, digit_dig n h16]
      rfl
    · rename_i h16
      have hk : 1 ≤ k := by
        rcases Nat.eq_zero_or_pos k with rfl | h
        · simp at hn; omega
        · exact h
      obtain ⟨d, hd, hl, he⟩ := digitsFrom_hexN k fuel (n / 16) (FmtText.digit false (n % 16) :: acc) hk (by omega) (by
        rw [Nat.pow_succ] at hn
        exact Nat.div_lt_of_lt_mul (by omega))
      refine ⟨d ++ [FmtText.digit false (n % 16)], by rw [hd]; simp, by simp; omega, ?_⟩
      rw [hexN, ← he, digit_dig _ (Nat.mod_lt _ (by decide))]
      simp
theorem hexN_be4 (n : Nat) (h : n < 4294967296) : hexN 8 n = hexL (be4 n) := by
  simp only [hexN, be4, hexL, List.nil_append, List.cons_append, UInt8.toNat_ofNat', Nat.div_div_eq_div_mul]
  have e1 : n / 16777216 % 2 ^ 8 / 16 = n / (16 * 16 * 16 * 16 * 16 * 16 * 16) % 16 := by omega
  have e2 : n / 16777216 % 2 ^ 8 % 16 = n / (16 * 16 * 16 * 16 * 16 * 16) % 16 := by omega
  have e3 : n / 65536 % 2 ^ 8 / 16 = n / (16 * 16 * 16 * 16 * 16) % 16 := by omega
  have e4 : n / 65536 % 2 ^ 8 % 16 = n / (16 * 16 * 16 * 16) % 16 := by omega
  have e5 : n / 256 % 2 ^ 8 / 16 = n / (16 * 16 * 16) % 16 := by omega
  have e6 : n / 256 % 2 ^ 8 % 16 = n / (16 * 16) % 16 := by omega
  have e7 : n % 2 ^ 8 / 16 = n / 16 % 16 := by omega
  have e8 : n % 2 ^ 8 % 16 = n % 16 := by omega
  rw [e1, e2, e3, e4, e5, e6, e7, e8]

theorem text08x (n : Nat) (h : n < 4294967296) : FmtText.text "fmt.Sprintf" [[37, 48, 56, 120], shape3, Go.Extern.Stop.digits 8 n] = some (hexL (be4 n)) := by
  have hw : (Lit.int .i64 (n : Int)).wf = true := by
    simp [Lit.wf, IntKind.min, IntKind.max, IntKind.signed, IntKind.bits]
    omega
  have en : ((n : Int) % 18446744073709551616).toNat = n := by omega
  have ho := FmtText.operand_int_at (sh := shape3) (k := .i64) (n := [3, 0, 0, 0, 0, 0, 0, 0, 105, 110, 116]) (name := [105, 110, 116]) rfl rfl (n : Int) hw
  have hp := FmtText.printArg_x_zero false false 8 [105, 110, 116] hw
  rw [en] at ho hp
  have hz : FmtText.hexZeros false false 8 (n : Int) = hexL (be4 n) := by
    obtain ⟨d, hd, hl, he⟩ := digitsFrom_hexN 8 64 n [] (by decide) (by decide) (by simpa using h)
    have hnum : FmtText.numeral 16 false n = d := by rw [FmtText.numeral, hd]; simp
    rw [← hexN_be4 n h, ← he]
    have hneg : ¬ ((n : Int) < 0) := by omega
    simp [FmtText.hexZeros, hneg, hnum]
  have hparse : FmtText.parse [37, 48, 56, 120] = some [.verb { widPresent := true, wid := 8, zero := true, sharp := false } 120] := by rfl
  rw [FmtText.text_sprintf hparse (FmtText.operands_cons ho FmtText.operands_nil)]
  rw [hz] at hp
  simp [FmtText.render, hp]
theorem told08x (F : Interp) (n : Nat) (h : n < 4294967296) : FmtStop.textOf (F.told "fmt.Sprintf" [[37, 48, 56, 120], shape3, Go.Extern.Stop.digits 8 n] 0) = bs (hexL (be4 n)) := by
  have := told_string F (text08x n h) (by rw [hexL_length]; simp [be4])
  rw [← Kit.textOf_list] at this
  rw [← bs_self (FmtStop.textOf _), this]
end Go.Proofs.YtooaiamfbmjmnaaFmt
