/- Whether any origin may be, and which port is meant, is the document's. -/
import Derived.Test.YtclagicimiimfaaDoorSch
import Derived.Test.YtclagicimiimfaaDoorRefPort
import Derived.Test.YtclagicimiimfaaDoorRefRight
namespace Go.Proofs.YtclagicimiimfaaDoor
open Go.RowKit

set_option maxRecDepth 100000 in
theorem port_any (sec : Bool) (w : World) (h : Schemes w) :
    Calls Tryd.prog 9 #[.bool sec] w fun e w' => e = .returned (.int .i64 (portI sec)) ∧ Below w.heap.size w w' := by
  have hf := field_port
  cases sec
  · go_enter Tryd.func9, Tryd.ntmps9
    go_wp2_with (go_at_call 20; refine (schemeOf_no _ h).mono ?_; rintro e w' ⟨rfl, hb⟩)
    go_ret
    exact ⟨rfl, hb⟩
  · go_enter Tryd.func9, Tryd.ntmps9
    go_wp2_with (go_at_call 20; refine (schemeOf_yes _ h).mono ?_; rintro e w' ⟨rfl, hb⟩)
    go_ret
    exact ⟨rfl, hb⟩

structure RKeep (w W : World) : Prop where
  sch : Schemes W
  bel : Below w.heap.size w W
  siz : w.heap.size < W.heap.size
abbrev RS (w : World) (sec : Bool) (host : ByteArray) (port : Int) (W : World) : Prop :=
  W.cell? ⟨w.heap.size, 0, none⟩ = some (.bool sec) ∧ W.cell? ⟨w.heap.size, 1, none⟩ = some (.string host) ∧ W.cell? ⟨w.heap.size, 2, none⟩ = some (.int .i64 port) ∧ RKeep w W
theorem RS.step {w W W' : World} {sec : Bool} {host : ByteArray} {port : Int} (h : RS w sec host port W) (hb : Below W.heap.size W W') : RS w sec host port W' := by
  obtain ⟨h0, h1, h2, h3, h4, h5⟩ := h
  have hz := hb.size
  exact ⟨(hb.cell (p := ⟨w.heap.size, 0, none⟩) h5).trans h0, (hb.cell (p := ⟨w.heap.size, 1, none⟩) h5).trans h1, (hb.cell (p := ⟨w.heap.size, 2, none⟩) h5).trans h2, h3.below hb (Nat.le_refl _), h4.trans (hb.mono h4.size), by omega⟩

set_option maxRecDepth 100000 in
set_option maxHeartbeats 2000000 in
theorem urlRights_walk (sec : Bool) (host : ByteArray) (port : Int) (hs : host.size ≤ 140737488355328) (w : World) (h : Schemes w) :
    Calls Tryd.prog 3 #[.agg #[.bool sec, .string host, .int .i64 port]] w fun e w' => e = .returned (.bool true) ∧ Below w.heap.size w w' := by
  by_cases h100 : (100 : Int) < (host.size : Int)
  · have hd : decide ((100 : Int) < (host.size : Int)) = true := decide_eq_true h100
    go_enter Tryd.func3, Tryd.ntmps3
    go_wp2_with fail
    go_quiet (fail)
    go_wp2
    go_ret
    exact ⟨rfl, (drewN_below ((Below.refl _ _).alloc (Nat.le_refl _) _) _)⟩
  · have hd : decide ((100 : Int) < (host.size : Int)) = false := decide_eq_false h100
    have hz : host.size ≤ 4000 := by omega
    have hS : RS w sec host port (w.alloc (.cells #[.bool sec, .string host, .int .i64 port] 23)) := by
      have hb : Below w.heap.size w (w.alloc (.cells #[.bool sec, .string host, .int .i64 port] 23)) := (Below.refl _ _).alloc (Nat.le_refl _) _
      exact ⟨cells_new _ _ _ 0, cells_new _ _ _ 1, cells_new _ _ _ 2, h.below hb (Nat.le_refl _), hb, by simp⟩
    go_enter Tryd.func3, Tryd.ntmps3
    go_wp2_with fail
    go_region_held3 (fun W => W.cell? ⟨w.heap.size, 0, none⟩ = some (.bool sec) ∧ W.cell? ⟨w.heap.size, 1, none⟩ = some (.string host) ∧ W.cell? ⟨w.heap.size, 2, none⟩ = some (.int .i64 port) ∧ RKeep w W) (first | assumption | exact hS.step (Below.refl _ _).drew) (first
      | (go_at_call 7; refine (right_any sec host port hz _).mono ?_; rintro e w1 ⟨rfl, hb1⟩; have hS1 := RS.step (by assumption) hb1)
      | (go_at_call 8; refine (refRight sec host port hz _).mono ?_; rintro e w2 ⟨rfl, hb2⟩; have hS2 := RS.step (by assumption) hb2)
      | (go_at_call 9; refine (port_any sec _ (RKeep.sch (And.right (And.right (And.right (by assumption)))))).mono ?_; rintro e w3 ⟨rfl, hb3⟩; have hS3 := RS.step (by assumption) hb3)
      | (go_at_call 10; refine (refPort sec _).mono ?_; rintro e w4 ⟨rfl, hb4⟩; have hS4 := RS.step (by assumption) hb4))
    go_wp2
    go_ret
    exact ⟨rfl, hS4.2.2.2.bel⟩
end Go.Proofs.YtclagicimiimfaaDoor
