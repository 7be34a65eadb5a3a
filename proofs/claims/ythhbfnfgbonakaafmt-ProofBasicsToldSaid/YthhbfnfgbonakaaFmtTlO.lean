/- Which number an error is: of none OK, of a bare number that number. -/
import Derived.Test.YthhbfnfgbonakaaFmtAs
namespace Go.Proofs.YthhbfnfgbonakaaFmt
open Go.RowKit Go.Extern.Stop Go.Stop Go.Extern

/-- The library's own variable that errors.As asks for. -/
def ErrT (w : World) : Prop := w.cell? ⟨4, 0, none⟩ = some (.iface 140 (.agg #[.pointer (some ⟨11, 28, none⟩)])) ∧ 4 < w.heap.size
theorem ErrT.below {w w' : World} (h : ErrT w) (hb : Below w.heap.size w w') : ErrT w' := by
  refine ⟨?_, Nat.lt_of_lt_of_le h.2 hb.size⟩
  rw [hb.cell (p := ⟨4, 0, none⟩) h.2]
  exact h.1

theorem tell_nil (w : World) : Calls Tryf.prog 26 #[.nilIface] w fun e w' => e = .returned (.int .i64 0) ∧ w' = w := by
  go_enter Tryf.func26, Tryf.ntmps26
  go_wp2
  go_ret
  exact ⟨rfl, rfl⟩

set_option maxHeartbeats 800000 in
theorem tell_no (n : Int) (w : World) (hg : ErrT w) : Calls Tryf.prog 26 #[.iface 24 (.int .i64 n)] w fun e w' => e = .returned (.int .i64 n) ∧ Below w.heap.size w w' := by
  have HG : Hid (ErrT w) := hg
  clear hg
  go_enter Tryf.func26, Tryf.ntmps26
  go_wp2_with fail
  refine (as_hit n ⟨w.heap.size, 0, none⟩ (.int .i64 0) _ ?_ ?_ ?_ ?_ ?_).mono ?_
  · exact (HG.out.below ((Below.refl _ _).alloc (Nat.le_refl _) _)).1
  · have := HG.out.2; first | (simp; done) | (simp; omega)
  · simp
  · simp
  · simp
  · rintro e w1 ⟨rfl, hw⟩
    have hc : w1.cell? ⟨w.heap.size, 0, none⟩ = some (.int .i64 n) := by
      rw [hw]
      refine World.cell?_setCell_same (u := .int .i64 0) _ _ _ ?_
      rw [World.cell?_alloc_lt _ _ _ (by simp; omega), World.cell?_alloc_lt _ _ _ (by simp; omega), World.cell?_alloc_lt _ _ _ (by simp; omega), World.cell?_alloc_lt _ _ _ (by simp)]
      simp
    have hb : Below w.heap.size w w1 := by
      rw [hw]
      exact (((((((Below.refl _ _).alloc (Nat.le_refl _) _).alloc (by simp) _).alloc (by simp; omega) _).alloc (by simp; omega) _).alloc (by simp; omega) _).setCell (Nat.le_refl _) _)
    clear hw
    go_wp2
    go_ret
    exact ⟨rfl, hb⟩

end Go.Proofs.YthhbfnfgbonakaaFmt
