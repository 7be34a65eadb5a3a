/- An error taken apart: of none it is OK, of a bare number that number; and there is no place. -/
import Derived.Test.YteldgpkkgnfiaaaDoorAs
namespace Go.Proofs.YteldgpkkgnfiaaaDoor
open Go.RowKit Go.Extern.Stop Go.Stop Go.Extern

/-- The library's own variable that errors.As asks for. -/
def ErrT (w : World) : Prop := w.cell? ⟨0, 0, none⟩ = some (.iface 86 (.agg #[.pointer (some ⟨2, 30, none⟩)])) ∧ 0 < w.heap.size
theorem ErrT.below {w w' : World} (h : ErrT w) (hb : Below w.heap.size w w') : ErrT w' := by
  refine ⟨?_, Nat.lt_of_lt_of_le h.2 hb.size⟩
  rw [hb.cell (p := ⟨0, 0, none⟩) h.2]
  exact h.1

theorem tell_nil (w : World) : Calls Tryd.prog 19 #[.nilIface] w fun e w' => e = .returned (.int .i64 0) ∧ w' = w := by
  go_enter Tryd.func19, Tryd.ntmps19
  go_wp2
  go_ret
  exact ⟨rfl, rfl⟩

set_option maxHeartbeats 800000 in
theorem tell_no (n : Int) (w : World) (hg : ErrT w) : Calls Tryd.prog 19 #[.iface 24 (.int .i64 n)] w fun e w' => e = .returned (.int .i64 n) ∧ Below w.heap.size w w' := by
  have HG : Hid (ErrT w) := hg
  clear hg
  go_enter Tryd.func19, Tryd.ntmps19
  go_wp2_with fail
  refine (as_hit n ⟨w.heap.size, 0, none⟩ (.int .i64 0) _ ?_ ?_ ?_ ?_ ?_).mono ?_
  · exact (HG.out.below ((Below.refl _ _).alloc (Nat.le_refl _) _)).1
  · have := HG.out.2; first | (simp; done) | (simp; omega)
  · simp
  · simp
  · simp
  · rintro e w1 ⟨rfl, hw⟩
    have hc : w1.cell? ⟨w.heap.size, 0, none⟩ = some (.int .i64 n) := by
      rw [hw]
      refine World.cell?_setCell_same (u := .int .i64 0) _ _ _ ?_
      rw [World.cell?_alloc_lt _ _ _ (by simp; omega), World.cell?_alloc_lt _ _ _ (by simp; omega), World.cell?_alloc_lt _ _ _ (by simp; omega), World.cell?_alloc_lt _ _ _ (by simp)]
      simp
    have hb : Below w.heap.size w w1 := by
      rw [hw]
      exact (((((((Below.refl _ _).alloc (Nat.le_refl _) _).alloc (by simp) _).alloc (by simp; omega) _).alloc (by simp; omega) _).alloc (by simp; omega) _).setCell (Nat.le_refl _) _)
    clear hw
    go_wp2
    go_ret
    exact ⟨rfl, hb⟩

theorem noAt (n : Int) (w : World) : (Instr.typeAssert (.iface 24 (.int .i64 n)) 30 49 true).run Tryd.prog w = .ok (.tuple #[.pointer none, .bool false]) w := by kernel_rfl
theorem noUnwrap (n : Int) (w : World) : (Instr.typeAssert (.iface 24 (.int .i64 n)) 30 61 true).run Tryd.prog w = .ok (.tuple #[.nilIface, .bool false]) w := by
  refine run_typeAssert_lacksB Tryd.underlying61 ?_ ?_ _ _ _
  · kernel_rfl
  · kernel_rfl

set_option maxHeartbeats 800000 in
theorem place_nil (w : World) : Calls Tryd.prog 13 #[.nilIface] w fun e w' => e = .returned (.tuple #[.int .i64 0, .int .i64 (-1)]) ∧ Below w.heap.size w w' := by
  go_enter Tryd.func13, Tryd.ntmps13
  go_wp2_with (go_at_call 19; refine (tell_nil _).mono ?_; rintro e w1 ⟨rfl, rfl⟩)
  refine wp_loop_rounds 1 ?_
  rw [rounds_succ]
  go_wp2
  go_ret2
  exact ⟨rfl, Below.refl _ _⟩

set_option maxHeartbeats 800000 in
theorem place_no (n : Int) (w : World) (hg : ErrT w) : Calls Tryd.prog 13 #[.iface 24 (.int .i64 n)] w fun e w' => e = .returned (.tuple #[.int .i64 n, .int .i64 (-1)]) ∧ Below w.heap.size w w' := by
  have a1 := noAt n
  have a2 := noUnwrap n
  go_enter Tryd.func13, Tryd.ntmps13
  go_wp2_with (go_at_call 19; refine (tell_no n _ hg).mono ?_; rintro e w1 ⟨rfl, hb⟩)
  clear hg
  refine wp_loop_rounds 1 ?_
  rw [rounds_succ]
  go_wp2
  go_ret2
  exact ⟨rfl, hb⟩

end Go.Proofs.YteldgpkkgnfiaaaDoor
