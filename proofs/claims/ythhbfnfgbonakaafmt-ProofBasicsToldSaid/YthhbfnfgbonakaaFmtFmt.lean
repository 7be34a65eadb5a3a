/- What the document's own answer asks fmt for: two digits of a byte, and bits of a byte or of a number. -/
import Derived.Test.YthhbfnfgbonakaaFmtBase
import Derived.Stop.CallBack
import Derived.Stop.IfaceNil
import Derived.Stop.Texts
import Derived.Stop.FmtTextKit
import Derived.Stop.JoinedTold
namespace Go.Proofs.YthhbfnfgbonakaaFmt
open Go.RowKit
open Go.Extern.Stop Go.Stop Go.Extern

theorem call16 (args : Array Value) (w : World) : (callFunc 22 args).run Tryf.prog w = ((FmtStop.sprintf #[9, 178] #[9] args).run Tryf.prog w).andThen fun v w' => .ok (.value v) w' :=
  run_callFunc_extern Tryf.func22 (by kernel_rfl) (by kernel_rfl) (by kernel_rfl) (by kernel_rfl) args w
theorem fguard (name : String) (w : World) : (FmtStop.guard name).run Tryf.prog w = .ok () w := by kernel_rfl
theorem fm02x (w : World) : (FmtDoors.printed ⟨#[37, 48, 50, 120]⟩ 1).run Tryf.prog w = .ok [(0, 120, false)] w := by kernel_rfl
theorem fm02x' : FmtStop.printed? ⟨#[37, 48, 50, 120]⟩ 1 = some [(0, 120, false)] := by kernel_rfl
def shape5 : List UInt8 := [6, 5, 0, 0, 0, 0, 0, 0, 0, 117, 105, 110, 116, 56]
theorem op5x (name : String) (x : Int) (w : World) : (FmtStop.operand name false 120 false (.iface 5 (.int .u8 x))).run Tryf.prog w = .ok (shape5, Go.Extern.Stop.digits 8 (x % 2 ^ 64).toNat) w := by kernel_rfl
theorem fm08b (w : World) : (FmtDoors.printed ⟨#[37, 48, 56, 98]⟩ 1).run Tryf.prog w = .ok [(0, 98, false)] w := by kernel_rfl
theorem fm06b (w : World) : (FmtDoors.printed ⟨#[37, 48, 54, 98]⟩ 1).run Tryf.prog w = .ok [(0, 98, false)] w := by kernel_rfl
theorem fm08b' : FmtStop.printed? ⟨#[37, 48, 56, 98]⟩ 1 = some [(0, 98, false)] := by kernel_rfl
theorem fm06b' : FmtStop.printed? ⟨#[37, 48, 54, 98]⟩ 1 = some [(0, 98, false)] := by kernel_rfl
theorem op5b (name : String) (x : Int) (w : World) : (FmtStop.operand name false 98 false (.iface 5 (.int .u8 x))).run Tryf.prog w = .ok (shape5, Go.Extern.Stop.digits 8 (x % 2 ^ 64).toNat) w := by kernel_rfl
def shape3 : List UInt8 := [5, 3, 0, 0, 0, 0, 0, 0, 0, 105, 110, 116]
theorem op3b (name : String) (x : Int) (w : World) : (FmtStop.operand name false 98 false (.iface 3 (.int .i64 x))).run Tryf.prog w = .ok (shape3, Go.Extern.Stop.digits 8 (x % 2 ^ 64).toNat) w := by kernel_rfl

def bit (n k : Nat) : UInt8 := if n / 2 ^ k % 2 = 1 then 49 else 48
def bits8 (n : Nat) : List UInt8 := [bit n 7, bit n 6, bit n 5, bit n 4, bit n 3, bit n 2, bit n 1, bit n 0]
def bits6 (n : Nat) : List UInt8 := [bit n 5, bit n 4, bit n 3, bit n 2, bit n 1, bit n 0]
def hex2 (n : Nat) : List UInt8 := [[48, 49, 50, 51, 52, 53, 54, 55, 56, 57, 97, 98, 99, 100, 101, 102].getD (n / 16) 0, [48, 49, 50, 51, 52, 53, 54, 55, 56, 57, 97, 98, 99, 100, 101, 102].getD (n % 16) 0]
theorem text02x : ∀ u : Fin 256, FmtText.text "fmt.Sprintf" [[37, 48, 50, 120], shape5, Go.Extern.Stop.digits 8 u.val] = some (hex2 u.val) := by decide +kernel
theorem text08b : ∀ u : Fin 256, FmtText.text "fmt.Sprintf" [[37, 48, 56, 98], shape5, Go.Extern.Stop.digits 8 u.val] = some (bits8 u.val) := by decide +kernel
theorem text06b : ∀ u : Fin 64, FmtText.text "fmt.Sprintf" [[37, 48, 54, 98], shape3, Go.Extern.Stop.digits 8 u.val] = some (bits6 u.val) := by decide +kernel

theorem told02x (F : Interp) (n : Nat) (h : n < 256) : FmtStop.textOf (F.told "fmt.Sprintf" [[37, 48, 50, 120], shape5, Go.Extern.Stop.digits 8 n] 0) = bs (hex2 n) := by
  have := told_string F (text02x ⟨n, h⟩) (by simp [hex2])
  rw [← Kit.textOf_list] at this
  rw [← bs_self (FmtStop.textOf _), this]
theorem told08b (F : Interp) (n : Nat) (h : n < 256) : FmtStop.textOf (F.told "fmt.Sprintf" [[37, 48, 56, 98], shape5, Go.Extern.Stop.digits 8 n] 0) = bs (bits8 n) := by
  have := told_string F (text08b ⟨n, h⟩) (by simp [bits8])
  rw [← Kit.textOf_list] at this
  rw [← bs_self (FmtStop.textOf _), this]
theorem told06b (F : Interp) (n : Nat) (h : n < 64) : FmtStop.textOf (F.told "fmt.Sprintf" [[37, 48, 54, 98], shape3, Go.Extern.Stop.digits 8 n] 0) = bs (bits6 n) := by
  have := told_string F (text06b ⟨n, h⟩) (by simp [bits6])
  rw [← Kit.textOf_list] at this
  rw [← bs_self (FmtStop.textOf _), this]
end Go.Proofs.YthhbfnfgbonakaaFmt
