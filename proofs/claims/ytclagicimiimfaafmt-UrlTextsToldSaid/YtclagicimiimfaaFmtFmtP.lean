/- What fmt.Sprint writes of a colon and a number. -/
import Derived.Test.YtclagicimiimfaaFmtBase
import Derived.Stop.CallBack
import Derived.Stop.IfaceNil
import Derived.Stop.Texts
import Derived.Stop.FmtTextKit
import Derived.Stop.JoinedTold
namespace Go.Proofs.YtclagicimiimfaaFmt
open Go.RowKit
open Go.Extern.Stop Go.Stop Go.Extern

theorem callSprint (args : Array Value) (w : World) : (callFunc 14 args).run Tryf.prog w = ((FmtStop.sprint "fmt.Sprint" #[72] #[9] args).run Tryf.prog w).andThen fun v w' => .ok (.value v) w' :=
  run_callFunc_extern Tryf.func14 (by kernel_rfl) (by kernel_rfl) (by kernel_rfl) (by kernel_rfl) args w
theorem fguard (name : String) (w : World) : (FmtStop.guard name).run Tryf.prog w = .ok () w := by kernel_rfl
def shape3 : List UInt8 := [5, 3, 0, 0, 0, 0, 0, 0, 0, 105, 110, 116]
def shape9 : List UInt8 := [12, 6, 0, 0, 0, 0, 0, 0, 0, 115, 116, 114, 105, 110, 103]
theorem op3v (name : String) (x : Int) (w : World) : (FmtStop.operand name false 118 false (.iface 3 (.int .i64 x))).run Tryf.prog w = .ok (shape3, Go.Extern.Stop.digits 8 (x % 2 ^ 64).toNat) w := by kernel_rfl
theorem op9v (name : String) (w : World) : (FmtStop.operand name false 118 false (.iface 9 (.string ⟨#[58]⟩))).run Tryf.prog w = .ok (shape9, FmtStop.pack [58]) w := by kernel_rfl
theorem textP (x : Int) (hw : (Lit.int .i64 x).wf = true) : FmtText.text "fmt.Sprint" [shape9, FmtStop.pack [58], shape3, Go.Extern.Stop.digits 8 (x % 18446744073709551616).toNat] = some (58 :: Lib.itoa x) := by
  have ho := FmtText.operand_int_at (sh := shape3) (k := .i64) (n := [3, 0, 0, 0, 0, 0, 0, 0, 105, 110, 116]) (name := [105, 110, 116]) rfl rfl x hw
  have h9 := FmtText.operand_str_at (sh := shape9) (n := [6, 0, 0, 0, 0, 0, 0, 0, 115, 116, 114, 105, 110, 103]) (name := [115, 116, 114, 105, 110, 103]) rfl rfl [58] (by simp)
  have hp := FmtText.printArg_v false [105, 110, 116] hw
  rw [FmtText.text_sprint (FmtText.operands_cons h9 (FmtText.operands_cons ho FmtText.operands_nil))]
  simp [FmtText.doPrint, FmtText.printArg_v_str, hp, FmtText.isString]
theorem toldP (F : Interp) (x : Int) (hw : (Lit.int .i64 x).wf = true) : FmtStop.textOf (F.told "fmt.Sprint" [shape9, FmtStop.pack [58], shape3, Go.Extern.Stop.digits 8 (x % 18446744073709551616).toNat] 0) = bs (58 :: Lib.itoa x) := by
  have := told_string F (textP x hw) (by have := FmtText.itoa_length_le hw; simp; omega)
  rw [← Kit.textOf_list] at this
  rw [← bs_self (FmtStop.textOf _), this]
end Go.Proofs.YtclagicimiimfaaFmt
