/- Two passes held against each other. -/
import Derived.Test.YtoblpjknnchlmabGreatDoorPsD
namespace Go.Proofs.YtoblpjknnchlmabGreatDoor
open Go.RowKit

theorem eqO9 (k : Nat) (a : Bool) (x : ByteArray) (n : Int) (w : World) :
    (Op.equalIn (k + 2) 23 (.agg #[.bool a, .string x, .int .i64 n]) (.agg #[.bool a, .string x, .int .i64 n])).run Tryz.prog w = .ok true w := by
  have u3 := Tryz.underlying3
  have u4 := Tryz.underlying4
  have u9 := Tryz.underlying9
  have a3 := Tryz.isAgg3
  have z3 := Tryz.sizeOf3
  have hS : Tryz.prog.underlying 23 = some (.struct (Tryz.prog.fieldsOf 23)) := by kernel_rfl
  have hp : Tryz.prog.stoodInHeld 23 = false := by kernel_rfl
  rw [run_equalIn_agg w (k + 1) 23 _ _ hS hp]
  simp only [Program.fieldsOf, Tryz.underlying23]
  go_simp
theorem eqU9 (k : Nat) (a : Bool) (x : ByteArray) (n : Int) (p q : ByteArray) (w : World) :
    (Op.equalIn (k + 3) 25 (.agg #[.bool a, .string x, .int .i64 n, .string p, .string q]) (.agg #[.bool a, .string x, .int .i64 n, .string p, .string q])).run Tryz.prog w = .ok true w := by
  have u3 := Tryz.underlying3
  have u4 := Tryz.underlying4
  have u9 := Tryz.underlying9
  have a3 := Tryz.isAgg3
  have z3 := Tryz.sizeOf3
  have hS : Tryz.prog.underlying 25 = some (.struct (Tryz.prog.fieldsOf 25)) := by kernel_rfl
  have hp : Tryz.prog.stoodInHeld 25 = false := by kernel_rfl
  have eo := fun w => eqO9 k a x n w
  rw [run_equalIn_agg w (k + 2) 25 _ _ hS hp]
  simp only [Program.fieldsOf, Tryz.underlying25]
  go_simp
theorem eqP9 (fs : Bool) (fh : ByteArray) (fp : Int) (us : Bool) (uh : ByteArray) (up : Int) (pa qu : ByteArray) (wi : Bool) (un : Int) (m1 h1 m2 h2 : ByteArray) (E : Bool) (hE : (m1.toList == m2.toList && h1.toList == h2.toList) = E) (w : World) :
    (Op.equalIn 10000 50 (.agg #[.bool fs, .string fh, .int .i64 fp, .bool us, .string uh, .int .i64 up, .string pa, .string qu, .bool wi, .string m1, .string h1, .int .i64 un]) (.agg #[.bool fs, .string fh, .int .i64 fp, .bool us, .string uh, .int .i64 up, .string pa, .string qu, .bool wi, .string m2, .string h2, .int .i64 un])).run Tryz.prog w = .ok E w := by
  have u3 := Tryz.underlying3
  have u4 := Tryz.underlying4
  have u9 := Tryz.underlying9
  have a3 := Tryz.isAgg3
  have z3 := Tryz.sizeOf3
  have hS : Tryz.prog.underlying 50 = some (.struct (Tryz.prog.fieldsOf 50)) := by kernel_rfl
  have hp : Tryz.prog.stoodInHeld 50 = false := by kernel_rfl
  have eo := fun w => eqO9 9997 fs fh fp w
  have eu := fun w => eqU9 9996 us uh up pa qu w
  rw [show (10000 : Nat) = 9999 + 1 from rfl, run_equalIn_agg w 9999 50 _ _ hS hp, ← hE]
  simp only [Program.fieldsOf, Tryz.underlying50]
  go_simp
  rw [← hE]
  by_cases h1' : m1.toList = m2.toList <;> by_cases h2' : h1.toList = h2.toList <;> simp [h1', h2']
end Go.Proofs.YtoblpjknnchlmabGreatDoor
