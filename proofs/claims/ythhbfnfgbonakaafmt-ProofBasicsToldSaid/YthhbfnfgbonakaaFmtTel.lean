/- An error taken apart: of none it is OK, of a bare number that number; and there is no place. -/
import Derived.Test.YthhbfnfgbonakaaFmtTlO
namespace Go.Proofs.YthhbfnfgbonakaaFmt
open Go.RowKit Go.Extern.Stop Go.Stop Go.Extern

theorem noAt (n : Int) (w : World) : (Instr.typeAssert (.iface 24 (.int .i64 n)) 28 55 true).run Tryf.prog w = .ok (.tuple #[.pointer none, .bool false]) w := by kernel_rfl
theorem noUnwrap (n : Int) (w : World) : (Instr.typeAssert (.iface 24 (.int .i64 n)) 28 59 true).run Tryf.prog w = .ok (.tuple #[.nilIface, .bool false]) w := by
  refine run_typeAssert_lacksB Tryf.underlying59 ?_ ?_ _ _ _
  · kernel_rfl
  · kernel_rfl

set_option maxHeartbeats 800000 in
theorem place_nil (w : World) : Calls Tryf.prog 16 #[.nilIface] w fun e w' => e = .returned (.tuple #[.int .i64 0, .int .i64 (-1)]) ∧ Below w.heap.size w w' := by
  go_enter Tryf.func16, Tryf.ntmps16
  go_wp2_with (go_at_call 26; refine (tell_nil _).mono ?_; rintro e w1 ⟨rfl, rfl⟩)
  refine wp_loop_rounds 1 ?_
  rw [rounds_succ]
  go_wp2
  go_ret2
  exact ⟨rfl, Below.refl _ _⟩

set_option maxHeartbeats 800000 in
theorem place_no (n : Int) (w : World) (hg : ErrT w) : Calls Tryf.prog 16 #[.iface 24 (.int .i64 n)] w fun e w' => e = .returned (.tuple #[.int .i64 n, .int .i64 (-1)]) ∧ Below w.heap.size w w' := by
  have a1 := noAt n
  have a2 := noUnwrap n
  go_enter Tryf.func16, Tryf.ntmps16
  go_wp2_with (go_at_call 26; refine (tell_no n _ hg).mono ?_; rintro e w1 ⟨rfl, hb⟩)
  clear hg
  refine wp_loop_rounds 1 ?_
  rw [rounds_succ]
  go_wp2
  go_ret2
  exact ⟨rfl, hb⟩

end Go.Proofs.YthhbfnfgbonakaaFmt
