/- Two origins held against each other; an origin's three cells kept. -/
import Derived.Test.YtpbipanafihabaaDoorOrgP
namespace Go.Proofs.YtpbipanafihabaaDoor
open Go.RowKit

structure C3 (W : World) (b : Nat) (v0 v1 v2 : Value) : Prop where
  c0 : W.cell? ⟨b, 0, none⟩ = some v0
  c1 : W.cell? ⟨b, 1, none⟩ = some v1
  c2 : W.cell? ⟨b, 2, none⟩ = some v2
theorem C3.step {W W' : World} {b : Nat} {v0 v1 v2 : Value} (h : C3 W b v0 v1 v2) (hb : Below W.heap.size W W') : C3 W' b v0 v1 v2 :=
  ⟨(hb.cell (p := ⟨b, 0, none⟩) (lt_of_cell h.c0)).trans h.c0, (hb.cell (p := ⟨b, 1, none⟩) (lt_of_cell h.c1)).trans h.c1, (hb.cell (p := ⟨b, 2, none⟩) (lt_of_cell h.c2)).trans h.c2⟩
theorem c3_new (W : World) (v0 v1 v2 : Value) (t : TypeId) : C3 (W.alloc (.cells #[v0, v1, v2] t)) W.heap.size v0 v1 v2 := ⟨cells_new _ _ _ 0, cells_new _ _ _ 1, cells_new _ _ _ 2⟩
theorem eqO (a c : Bool) (x y : ByteArray) (n m : Int) (E : Bool) (hE : (a == c && (x.toList == y.toList && n == m)) = E) (w : World) :
    (Op.equalIn 10000 23 (.agg #[.bool a, .string x, .int .i64 n]) (.agg #[.bool c, .string y, .int .i64 m])).run Tryd.prog w = .ok E w := by
  have u3 := Tryd.underlying3
  have u4 := Tryd.underlying4
  have u9 := Tryd.underlying9
  have a3 := Tryd.isAgg3
  have z3 := Tryd.sizeOf3
  have hS : Tryd.prog.underlying 23 = some (.struct (Tryd.prog.fieldsOf 23)) := by kernel_rfl
  have hp : Tryd.prog.stoodInHeld 23 = false := by kernel_rfl
  rw [show (10000 : Nat) = 9999 + 1 from rfl, run_equalIn_agg w 9999 23 _ _ hS hp, ← hE]
  simp only [Program.fieldsOf, Tryd.underlying23]
  go_simp
  rw [← hE]
  by_cases h1 : a = c <;> by_cases h2 : x.toList = y.toList <;> by_cases h3 : n = m <;> simp [h1, h2, h3]
end Go.Proofs.YtpbipanafihabaaDoor
