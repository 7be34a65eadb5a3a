/- The document's own port. -/
import Derived.Test.YtpbipanafihabaaDoorUr
import Derived.Carry
import Derived.Maps.Own
import Derived.Maps.Keyed
namespace Go.Proofs.YtpbipanafihabaaDoor
open Go.RowKit
open Go.Maps

theorem zero3 (w : World) : (zeroValue 3).run Tryd.prog w = .ok (.int .i64 0) w := by kernel_rfl
theorem port_at (b : Bool) : (((DataW.map [] : DataW Unit).put (.bool true) (.lit (.int .i64 443))).put (.bool false) (.lit (.int .i64 80))).atKey (.bool b) (.lit (.int .i64 0)) = .lit (.int .i64 (portI b)) := by
  cases b <;> rfl
theorem refPort (b : Bool) (w : World) :
    Calls Tryd.prog 16 #[.bool b] w fun e w' => e = .returned (.int .i64 (portI b)) ∧ Below w.heap.size w w' := by
  have hmm := @run_makeMap Tryd.prog
  have law : Maps.Keyed Tryd.prog 4 := Maps.bool_keyed Tryd.underlying4
  have h0 := World.ownsMap_made (H := Unit) w Tryd.prog 4 (plainElem Tryd.prog 3)
  obtain ⟨w1, r1, o1, g1⟩ := h0.update law Tryd.underlying78 (by unfold maxLen; omega) (keyOf_bool_mk Tryd.underlying4 true) (plainElem_int (a := 443) Tryd.underlying3 (by decide))
  obtain ⟨w2, r2, o2, g2⟩ := o1.update law Tryd.underlying78 (by unfold maxLen; omega) (keyOf_bool_mk Tryd.underlying4 false) (plainElem_int (a := 80) Tryd.underlying3 (by decide))
  obtain ⟨c, r3, hc, _⟩ := o2.lookup_int law Tryd.underlying78 Tryd.underlying3 (zero3 _) (keyOf_bool_mk Tryd.underlying4 b)
  rw [port_at] at hc
  simp only [DataW.lit.injEq, Lit.int.injEq, true_and] at hc
  have HC : Hid (portI b = c) := hc
  have hb : Below w.heap.size w w2 := (((Below.refl _ _).alloc (Nat.le_refl _) _).grown g1 (by simp) (by simp)).grown g2 (Nat.le_trans (by simp) g1.size) (by simp)
  clear hc o1 o2 h0 g1 g2
  go_enter Tryd.func16, Tryd.ntmps16
  go_wp2
  go_ret
  refine ⟨?_, hb⟩
  rw [HC.out]
  rfl
end Go.Proofs.YtpbipanafihabaaDoor
