/- Which number an error with a place is. -/
import Derived.Test.YteldgpkkgnfiaabGreatDoorAsAt
namespace Go.Proofs.YteldgpkkgnfiaabGreatDoor
open Go.RowKit Go.Extern.Stop Go.Stop Go.Extern

set_option maxHeartbeats 800000 in
theorem tell_at (g : Nat) (n : Int) (w : World) (hg : ErrT w) (hat : w.cell? ⟨g, 0, none⟩ = some (.int .i64 n)) (hgl : g < w.heap.size) : Calls Tryz.prog 9 #[.iface 124 (.pointer (some ⟨g, 0, none⟩))] w fun e w' => e = .returned (.int .i64 n) ∧ Below w.heap.size w w' := by
  have HG : Hid (ErrT w) := hg
  have HA : Hid (w.cell? ⟨g, 0, none⟩ = some (.int .i64 n)) := hat
  clear hg hat
  go_enter Tryz.func9, Tryz.ntmps9
  go_wp2_with fail
  refine (as_at g n ⟨w.heap.size, 0, none⟩ (.int .i64 0) _ ?_ ?_ ?_ ?_ ?_ ?_ ?_).mono ?_
  · exact (HG.out.below ((Below.refl _ _).alloc (Nat.le_refl _) _)).1
  · have := HG.out.2; first | (simp; done) | (simp; omega)
  · simp
  · simp
  · simp
  · rw [World.cell?_alloc_lt _ _ ⟨g, 0, none⟩ hgl]; exact HA
  · simp; omega
  · rintro e w1 ⟨rfl, hw⟩
    have hc : w1.cell? ⟨w.heap.size, 0, none⟩ = some (.int .i64 n) := by
      rw [hw]
      refine World.cell?_setCell_same (u := .int .i64 0) _ _ _ ?_
      rw [World.cell?_alloc_lt _ _ _ (by simp; omega), World.cell?_alloc_lt _ _ _ (by simp; omega), World.cell?_alloc_lt _ _ _ (by simp; omega), World.cell?_alloc_lt _ _ _ (by simp)]
      simp
    have hb : Below w.heap.size w w1 := by
      rw [hw]
      exact (((((((Below.refl _ _).alloc (Nat.le_refl _) _).alloc (by simp) _).alloc (by simp; omega) _).alloc (by simp; omega) _).alloc (by simp; omega) _).setCell (Nat.le_refl _) _)
    clear hw
    go_wp2
    go_ret
    exact ⟨rfl, hb⟩
end Go.Proofs.YteldgpkkgnfiaabGreatDoor
