/- What is asked for, that came in: opened (a seat without proof's texts). -/
import Derived.ProofKit
import Derived.OpenShut
import Derived.Carry
import Derived.SizedLaws
import Derived.Deep.Slices
import Derived.Deep.Strs
import Derived.Lib.SmallJoins
import Derived.Test.YtokiddikcaihmabGrD
namespace Go.Proofs.Ytokiddikcaihmab
open Go.ChangeShapes Go.WideShapes Go.ChangeAt Go.RowKit Go.Joins Go.Deep

theorem laidOutK : laidOutB Try.prog = true := by kernel_rfl
theorem array8' {α : Type} {cs : Array α} (h : cs.size = 8) : ∃ c0 c1 c2 c3 c4 c5 c6 c7, cs = #[c0, c1, c2, c3, c4, c5, c6, c7] := by
  obtain ⟨l⟩ := cs
  match l, h with
  | [c0, c1, c2, c3, c4, c5, c6, c7], _ => exact ⟨c0, c1, c2, c3, c4, c5, c6, c7, rfl⟩
theorem list8' {α : Type} {l : List α} (h : l.length = 8) : ∃ c0 c1 c2 c3 c4 c5 c6 c7, l = [c0, c1, c2, c3, c4, c5, c6, c7] := by
  match l, h with
  | [c0, c1, c2, c3, c4, c5, c6, c7], _ => exact ⟨c0, c1, c2, c3, c4, c5, c6, c7, rfl⟩
theorem one_field' {H : Type} {enc : TypeId × Value → H} {W : World} {n : Nat} {f : Field} {cs : List Value} {i : Nat} {c : Value} {y : Option (DataW H × List MemPlace)} (ho : f.offset = i ∧ Try.prog.cellsOf f.type = 1) (hc : (cs.drop i).take 1 = [c])
    (h : DataW.trod enc Try.prog W 0 (fun _ => true) true n f.type ((cs.drop f.offset).take (Try.prog.cellsOf f.type)) = y) : DataW.trod enc Try.prog W 0 (fun _ => true) true n f.type [c] = y := by
  rw [ho.1, ho.2, hc] at h
  exact h
section
variable {H : Type} {enc : TypeId × Value → H} {W : World}
set_option maxRecDepth 100000 in
set_option maxHeartbeats 1000000 in
theorem open_ask8' {f0 f1 f2 f3 f4 f5 f6 f7 : Field} {t : TypeId} (hs : Try.prog.underlying t = some (.struct #[f0, f1, f2, f3, f4, f5, f6, f7])) (hone : oneCellFields Try.prog #[f0, f1, f2, f3, f4, f5, f6, f7] = true) (hC : Try.prog.cellsOf t = 8)
    {b0 : Nat} {v : Value} {d : DataW H} {p : List MemPlace} (hv : Value.okWide Try.prog W .any b0 t v) (h : DataW.Trod enc Try.prog W 0 (fun _ => true) true t v d p) :
    ∃ (c0 c1 c2 c3 c4 c5 c6 c7 : Value) (y0 y1 y2 y3 y4 y5 y6 y7 : DataW H × List MemPlace) (n : Nat), v = .agg #[c0, c1, c2, c3, c4, c5, c6, c7] ∧ d = .agg [y0.1, y1.1, y2.1, y3.1, y4.1, y5.1, y6.1, y7.1] ∧
      DataW.trod enc Try.prog W 0 (fun _ => true) true n f0.type [c0] = some y0 ∧ DataW.trod enc Try.prog W 0 (fun _ => true) true n f1.type [c1] = some y1 ∧ DataW.trod enc Try.prog W 0 (fun _ => true) true n f2.type [c2] = some y2 ∧ DataW.trod enc Try.prog W 0 (fun _ => true) true n f3.type [c3] = some y3 ∧
      DataW.trod enc Try.prog W 0 (fun _ => true) true n f4.type [c4] = some y4 ∧ DataW.trod enc Try.prog W 0 (fun _ => true) true n f5.type [c5] = some y5 ∧ DataW.trod enc Try.prog W 0 (fun _ => true) true n f6.type [c6] = some y6 ∧ DataW.trod enc Try.prog W 0 (fun _ => true) true n f7.type [c7] = some y7 := by
  obtain ⟨cs, rfl, hsz⟩ := okWide_struct hs hv
  obtain ⟨c0, c1, c2, c3, c4, c5, c6, c7, rfl⟩ := array8' (hsz.trans hC)
  obtain ⟨fuel, hf⟩ := h
  obtain ⟨xs, n, _, hx, _, hlen, hff⟩ := DataW.trod_struct hs hf
  obtain ⟨y0, y1, y2, y3, y4, y5, y6, y7, rfl⟩ := list8' (hlen.trans rfl)
  simp only [Prod.mk.injEq] at hx
  have o := hone_of hone
  exact ⟨c0, c1, c2, c3, c4, c5, c6, c7, y0, y1, y2, y3, y4, y5, y6, y7, n, rfl, hx.1, one_field' (o 0 f0 rfl) rfl (hff 0 f0 rfl), one_field' (o 1 f1 rfl) rfl (hff 1 f1 rfl), one_field' (o 2 f2 rfl) rfl (hff 2 f2 rfl), one_field' (o 3 f3 rfl) rfl (hff 3 f3 rfl),
    one_field' (o 4 f4 rfl) rfl (hff 4 f4 rfl), one_field' (o 5 f5 rfl) rfl (hff 5 f5 rfl), one_field' (o 6 f6 rfl) rfl (hff 6 f6 rfl), one_field' (o 7 f7 rfl) rfl (hff 7 f7 rfl)⟩
set_option maxRecDepth 100000 in
set_option maxHeartbeats 1000000 in
theorem open_askS {b0 : Nat} {v : Value} {d : DataW H} {p : List MemPlace} (hv : Value.okWide Try.prog W .any b0 36 v) (h : DataW.Trod enc Try.prog W 0 (fun _ => true) true 36 v d p) :
    ∃ (sch : Int) (r no op q : ByteArray) (se st : Bool) (dp : Option Addr) (dn dc : Nat), v = .agg #[.int .i64 sch, .string r, .string no, .string op, .bool se, .string q, .bool st, .slice dp dn dc] := by
  obtain ⟨c0, c1, c2, c3, c4, c5, c6, c7, y0, y1, y2, y3, y4, y5, y6, y7, n, rfl, rfl, g0, g1, g2, g3, g4, g5, g6, g7⟩ := open_ask8' Try.underlying36 (by kernel_rfl) (by kernel_rfl) hv h
  obtain ⟨s0, e0, rfl, _⟩ := DataW.trod_int Try.underlying3 g0
  obtain ⟨s1, e1, rfl, _⟩ := DataW.trod_string Try.underlying9 g1
  obtain ⟨s2, e2, rfl, _⟩ := DataW.trod_string Try.underlying9 g2
  obtain ⟨s3, e3, rfl, _⟩ := DataW.trod_string Try.underlying9 g3
  obtain ⟨s4, e4, rfl⟩ := DataW.trod_bool Try.underlying4 g4
  obtain ⟨s5, e5, rfl, _⟩ := DataW.trod_string Try.underlying9 g5
  obtain ⟨s6, e6, rfl⟩ := DataW.trod_bool Try.underlying4 g6
  have h7 := DataW.trod_slice Try.underlying34 g7
  simp only [List.cons.injEq, and_true] at e0 e1 e2 e3 e4 e5 e6
  subst e0 e1 e2 e3 e4 e5 e6
  rcases h7 with ⟨e7, _⟩ | ⟨a, len, cap, _, _, _, _, e7, _⟩
  · simp only [List.cons.injEq, and_true] at e7
    subst e7
    exact ⟨_, _, _, _, _, _, _, _, _, _, rfl⟩
  · simp only [List.cons.injEq, and_true] at e7
    subst e7
    exact ⟨_, _, _, _, _, _, _, _, _, _, rfl⟩
end
end Go.Proofs.Ytokiddikcaihmab
