/- An error taken apart and held against the document's: none, a bare number, a number at a place. -/
import Derived.Test.YteldgpkkgnfiaaaDoorAsAt
import Derived.Deep.QuietTactic
import Derived.BigQuiet
namespace Go.Proofs.YteldgpkkgnfiaaaDoor
open Go.RowKit Go.Extern.Stop Go.Stop Go.Extern

set_option maxHeartbeats 800000 in
theorem tell_at (g : Nat) (n : Int) (w : World) (hg : ErrT w) (hat : w.cell? ⟨g, 0, none⟩ = some (.int .i64 n)) (hgl : g < w.heap.size) : Calls Tryd.prog 19 #[.iface 49 (.pointer (some ⟨g, 0, none⟩))] w fun e w' => e = .returned (.int .i64 n) ∧ Below w.heap.size w w' := by
  have HG : Hid (ErrT w) := hg
  have HA : Hid (w.cell? ⟨g, 0, none⟩ = some (.int .i64 n)) := hat
  clear hg hat
  go_enter Tryd.func19, Tryd.ntmps19
  go_wp2_with fail
  refine (as_at g n ⟨w.heap.size, 0, none⟩ (.int .i64 0) _ ?_ ?_ ?_ ?_ ?_ ?_ ?_).mono ?_
  · exact (HG.out.below ((Below.refl _ _).alloc (Nat.le_refl _) _)).1
  · have := HG.out.2; first | (simp; done) | (simp; omega)
  · simp
  · simp
  · simp
  · rw [World.cell?_alloc_lt _ _ ⟨g, 0, none⟩ hgl]; exact HA
  · simp; omega
  · rintro e w1 ⟨rfl, hw⟩
    have hc : w1.cell? ⟨w.heap.size, 0, none⟩ = some (.int .i64 n) := by
      rw [hw]
      refine World.cell?_setCell_same (u := .int .i64 0) _ _ _ ?_
      rw [World.cell?_alloc_lt _ _ _ (by simp; omega), World.cell?_alloc_lt _ _ _ (by simp; omega), World.cell?_alloc_lt _ _ _ (by simp; omega), World.cell?_alloc_lt _ _ _ (by simp)]
      simp
    have hb : Below w.heap.size w w1 := by
      rw [hw]
      exact (((((((Below.refl _ _).alloc (Nat.le_refl _) _).alloc (by simp) _).alloc (by simp; omega) _).alloc (by simp; omega) _).alloc (by simp; omega) _).setCell (Nat.le_refl _) _)
    clear hw
    go_wp2
    go_ret
    exact ⟨rfl, hb⟩
theorem isAt (v : Value) (w : World) : (Instr.typeAssert (.iface 49 v) 30 49 true).run Tryd.prog w = .ok (.tuple #[v, .bool true]) w := by kernel_rfl
set_option maxHeartbeats 800000 in
theorem place_at (g : Nat) (n p : Int) (w : World) (hg : ErrT w) (hat : w.cell? ⟨g, 0, none⟩ = some (.int .i64 n)) (hat2 : w.cell? ⟨g, 1, none⟩ = some (.int .i64 p)) (hgl : g < w.heap.size) :
    Calls Tryd.prog 13 #[.iface 49 (.pointer (some ⟨g, 0, none⟩))] w fun e w' => e = .returned (.tuple #[.int .i64 n, .int .i64 p]) ∧ Below w.heap.size w w' := by
  have a1 := isAt (.pointer (some ⟨g, 0, none⟩))
  go_enter Tryd.func13, Tryd.ntmps13
  go_wp2_with (go_at_call 19; refine (tell_at g n _ hg hat hgl).mono ?_; rintro e w1 ⟨rfl, hb⟩)
  have h2 : w1.cell? ⟨g, 1, none⟩ = some (.int .i64 p) := (hb.cell (p := ⟨g, 1, none⟩) hgl).trans hat2
  clear hg hat hat2
  refine wp_loop_rounds 1 ?_
  rw [rounds_succ]
  go_wp2
  go_quiet (fail)
  go_wp2
  go_ret2
  exact ⟨rfl, hb.trans ⟨rfl, rfl, rfl, Nat.le_refl _, fun _ _ => rfl⟩⟩
set_option maxHeartbeats 800000 in
theorem placed_nil (w : World) : Calls Tryd.prog 7 #[.nilIface, .agg #[.int .i64 0, .int .i64 (-1)]] w fun e w' => e = .returned (.bool true) ∧ Below w.heap.size w w' := by
  go_enter Tryd.func7, Tryd.ntmps7
  go_wp2_with fail
  refine (place_nil _).mono ?_
  rintro e w1 ⟨rfl, hb⟩
  have c0 : w1.cell? ⟨w.heap.size, 0, none⟩ = some (.int .i64 0) := (hb.cell (p := ⟨w.heap.size, 0, none⟩) (by simp)).trans (by simp)
  have c1 : w1.cell? ⟨w.heap.size, 1, none⟩ = some (.int .i64 (-1)) := (hb.cell (p := ⟨w.heap.size, 1, none⟩) (by simp)).trans (by simp)
  go_wp2
  go_ret
  exact ⟨rfl, ((Below.refl _ _).alloc (Nat.le_refl _) _).trans (hb.mono (by simp))⟩
set_option maxHeartbeats 800000 in
theorem placed_no (n : Int) (w : World) (hg : ErrT w) : Calls Tryd.prog 7 #[.iface 24 (.int .i64 n), .agg #[.int .i64 n, .int .i64 (-1)]] w fun e w' => e = .returned (.bool true) ∧ Below w.heap.size w w' := by
  have HG : Hid (ErrT w) := hg
  clear hg
  go_enter Tryd.func7, Tryd.ntmps7
  go_wp2_with fail
  refine (place_no n _ (HG.out.below ((Below.refl _ _).alloc (Nat.le_refl _) _))).mono ?_
  rintro e w1 ⟨rfl, hb⟩
  have c0 : w1.cell? ⟨w.heap.size, 0, none⟩ = some (.int .i64 n) := (hb.cell (p := ⟨w.heap.size, 0, none⟩) (by simp)).trans (by simp)
  have c1 : w1.cell? ⟨w.heap.size, 1, none⟩ = some (.int .i64 (-1)) := (hb.cell (p := ⟨w.heap.size, 1, none⟩) (by simp)).trans (by simp)
  have hnn : (n == n) = true := by simp
  go_wp2
  go_ret
  exact ⟨by simp, ((Below.refl _ _).alloc (Nat.le_refl _) _).trans (hb.mono (by simp))⟩
set_option maxHeartbeats 800000 in
theorem placed_at (g : Nat) (n p : Int) (w : World) (hg : ErrT w) (hat : w.cell? ⟨g, 0, none⟩ = some (.int .i64 n)) (hat2 : w.cell? ⟨g, 1, none⟩ = some (.int .i64 p)) (hgl : g < w.heap.size) :
    Calls Tryd.prog 7 #[.iface 49 (.pointer (some ⟨g, 0, none⟩)), .agg #[.int .i64 n, .int .i64 p]] w fun e w' => e = .returned (.bool true) ∧ Below w.heap.size w w' := by
  have HG : Hid (ErrT w) := hg
  have H1 : Hid (w.cell? ⟨g, 0, none⟩ = some (.int .i64 n)) := hat
  have H2 : Hid (w.cell? ⟨g, 1, none⟩ = some (.int .i64 p)) := hat2
  clear hg hat hat2
  go_enter Tryd.func7, Tryd.ntmps7
  go_wp2_with fail
  refine (place_at g n p _ (HG.out.below ((Below.refl _ _).alloc (Nat.le_refl _) _)) ?_ ?_ ?_).mono ?_
  · rw [World.cell?_alloc_lt _ _ ⟨g, 0, none⟩ hgl]; exact H1
  · rw [World.cell?_alloc_lt _ _ ⟨g, 1, none⟩ hgl]; exact H2
  · simp; omega
  rintro e w1 ⟨rfl, hb⟩
  have c0 : w1.cell? ⟨w.heap.size, 0, none⟩ = some (.int .i64 n) := (hb.cell (p := ⟨w.heap.size, 0, none⟩) (by simp)).trans (by simp)
  have c1 : w1.cell? ⟨w.heap.size, 1, none⟩ = some (.int .i64 p) := (hb.cell (p := ⟨w.heap.size, 1, none⟩) (by simp)).trans (by simp)
  have hnn : (n == n) = true := by simp
  have hpp : (p == p) = true := by simp
  go_wp2
  go_ret
  exact ⟨by simp, ((Below.refl _ _).alloc (Nat.le_refl _) _).trans (hb.mono (by simp))⟩
end Go.Proofs.YteldgpkkgnfiaaaDoor
