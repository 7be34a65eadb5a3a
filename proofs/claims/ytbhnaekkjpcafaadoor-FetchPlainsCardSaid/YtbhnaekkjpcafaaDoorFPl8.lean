/- The law FetchPlains, walked. -/
import Derived.Test.YtbhnaekkjpcafaaDoorRPln8
import Derived.Test.YtbhnaekkjpcafaaDoorBx
import Derived.Test.YtbhnaekkjpcafaaDoorArgPp
import Derived.Deep.RegionHeld3
namespace Go.Proofs.YtbhnaekkjpcafaaDoor
open Go.RowKit

structure KeepW (w W : World) : Prop where
  bel : Below w.heap.size w W
  siz : w.heap.size < W.heap.size
abbrev BoxP (w : World) (x y : ByteArray) (W : World) : Prop :=
  W.cell? ⟨w.heap.size, 0, none⟩ = some (.string x) ∧ W.cell? ⟨w.heap.size, 1, none⟩ = some (.string y) ∧ KeepW w W
theorem BoxP.step {w W W' : World} {x y : ByteArray} (h : BoxP w x y W) (hb : Below W.heap.size W W') : BoxP w x y W' := by
  obtain ⟨h0, h1, h4, h5⟩ := h
  have hz := hb.size
  exact ⟨(hb.cell (p := ⟨w.heap.size, 0, none⟩) h5).trans h0, (hb.cell (p := ⟨w.heap.size, 1, none⟩) h5).trans h1, h4.trans (hb.mono h4.size), by omega⟩
theorem boxP_new (w : World) (x y : ByteArray) : BoxP w x y (w.alloc (.cells #[.string x, .string y] 25)) :=
  ⟨cells_new _ _ _ 0, cells_new _ _ _ 1, (Below.refl _ _).alloc (Nat.le_refl _) _, by simp⟩
set_option maxRecDepth 100000 in
set_option maxHeartbeats 4000000 in
theorem fetchPlains_walk (x y : ByteArray) (hz : x.size ≤ 140737488355328 ∧ y.size ≤ 140737488355328) (w : World) :
    Calls Tryd.prog 4 #[.agg #[.string x, .string y]] w fun e w' => e = .returned (.bool true) ∧ Below w.heap.size w w' := by
  obtain ⟨h1, h2⟩ := hz
  have hS := boxP_new w x y
  by_cases h : x.size + y.size ≤ 400
  · have hd : decide ((400 : Int) < (x.size : Int) + (y.size : Int)) = false := decide_eq_false (by omega)
    have hx4 : x.size ≤ 4000 := by omega
    have hw : IntKind.i64.wrap ((x.size : Int) + (y.size : Int)) = (x.size : Int) + (y.size : Int) := IntWalk.i64_in _ ⟨by omega, by omega⟩
    have hd2 : decide ((400 : Int) < IntKind.i64.wrap ((x.size : Int) + (y.size : Int))) = false := by rw [hw]; exact hd
    obtain ⟨b, HB⟩ : ∃ b, Hid (plainL x.data.toList y.data.toList = b) := ⟨_, rfl⟩
    go_enter Tryd.func4, Tryd.ntmps4
    go_wp2_with fail
    go_region_held3 (fun W => W.cell? ⟨w.heap.size, 0, none⟩ = some (.string x) ∧ W.cell? ⟨w.heap.size, 1, none⟩ = some (.string y) ∧ KeepW w W) (first | assumption | exact hS.step (Below.refl _ _).drew) (first
      | (go_at_call 12; refine (plain_any x y hx4 h2 _).mono ?_; rintro e w1 ⟨rfl, hb1⟩; rw [HB.out]; have hS1 := BoxP.step (by assumption) hb1)
      | (go_at_call 13; refine (refPlain_any x y hx4 h2 _).mono ?_; rintro e w2 ⟨rfl, hb2⟩; rw [HB.out]; have hS2 := BoxP.step (by assumption) hb2))
    go_wp2
    go_ret
    exact ⟨ret_bool (by simp), hS2.2.2.bel⟩
  · have hd : decide ((400 : Int) < (x.size : Int) + (y.size : Int)) = true := decide_eq_true (by omega)
    go_enter Tryd.func4, Tryd.ntmps4
    go_wp2_with fail
    go_quiet (fail)
    go_wp2
    go_ret
    exact ⟨rfl, (drewN_below ((Below.refl _ _).alloc (Nat.le_refl _) _) _)⟩
end Go.Proofs.YtbhnaekkjpcafaaDoor
