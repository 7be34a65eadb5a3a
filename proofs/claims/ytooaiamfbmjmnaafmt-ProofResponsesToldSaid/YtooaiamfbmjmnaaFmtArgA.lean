/- What is asked for, that came in: opened. -/
import Derived.Test.YtooaiamfbmjmnaaFmtArgK
namespace Go.Proofs.YtooaiamfbmjmnaaFmt
open Go.ChangeShapes Go.WideShapes Go.ChangeAt Go.RowKit Go.Joins Go.Deep

theorem one_field {H : Type} {enc : TypeId × Value → H} {W : World} {n : Nat} {f : Field} {cs : List Value} {i : Nat} {c : Value} {y : Option (DataW H × List MemPlace)} (ho : f.offset = i ∧ Tryf.prog.cellsOf f.type = 1) (hc : (cs.drop i).take 1 = [c])
    (h : DataW.trod enc Tryf.prog W 0 (fun _ => true) true n f.type ((cs.drop f.offset).take (Tryf.prog.cellsOf f.type)) = y) : DataW.trod enc Tryf.prog W 0 (fun _ => true) true n f.type [c] = y := by
  rw [ho.1, ho.2, hc] at h
  exact h
section
variable {H : Type} {enc : TypeId × Value → H} {W : World}
set_option maxRecDepth 100000 in
set_option maxHeartbeats 1000000 in
theorem open_ask8 {f0 f1 f2 f3 f4 f5 f6 f7 : Field} {t : TypeId} (hs : Tryf.prog.underlying t = some (.struct #[f0, f1, f2, f3, f4, f5, f6, f7])) (hone : oneCellFields Tryf.prog #[f0, f1, f2, f3, f4, f5, f6, f7] = true) (hC : Tryf.prog.cellsOf t = 8)
    {b0 : Nat} {v : Value} {d : DataW H} {p : List MemPlace} (hv : Value.okWide Tryf.prog W .any b0 t v) (h : DataW.Trod enc Tryf.prog W 0 (fun _ => true) true t v d p) :
    ∃ (c0 c1 c2 c3 c4 c5 c6 c7 : Value) (y0 y1 y2 y3 y4 y5 y6 y7 : DataW H × List MemPlace) (n : Nat), v = .agg #[c0, c1, c2, c3, c4, c5, c6, c7] ∧ d = .agg [y0.1, y1.1, y2.1, y3.1, y4.1, y5.1, y6.1, y7.1] ∧
      DataW.trod enc Tryf.prog W 0 (fun _ => true) true n f0.type [c0] = some y0 ∧ DataW.trod enc Tryf.prog W 0 (fun _ => true) true n f1.type [c1] = some y1 ∧ DataW.trod enc Tryf.prog W 0 (fun _ => true) true n f2.type [c2] = some y2 ∧ DataW.trod enc Tryf.prog W 0 (fun _ => true) true n f3.type [c3] = some y3 ∧
      DataW.trod enc Tryf.prog W 0 (fun _ => true) true n f4.type [c4] = some y4 ∧ DataW.trod enc Tryf.prog W 0 (fun _ => true) true n f5.type [c5] = some y5 ∧ DataW.trod enc Tryf.prog W 0 (fun _ => true) true n f6.type [c6] = some y6 ∧ DataW.trod enc Tryf.prog W 0 (fun _ => true) true n f7.type [c7] = some y7 := by
  obtain ⟨cs, rfl, hsz⟩ := okWide_struct hs hv
  obtain ⟨c0, c1, c2, c3, c4, c5, c6, c7, rfl⟩ := array8 (hsz.trans hC)
  obtain ⟨fuel, hf⟩ := h
  obtain ⟨xs, n, _, hx, _, hlen, hff⟩ := DataW.trod_struct hs hf
  obtain ⟨y0, y1, y2, y3, y4, y5, y6, y7, rfl⟩ := list8 (hlen.trans rfl)
  simp only [Prod.mk.injEq] at hx
  have o := hone_of hone
  exact ⟨c0, c1, c2, c3, c4, c5, c6, c7, y0, y1, y2, y3, y4, y5, y6, y7, n, rfl, hx.1, one_field (o 0 f0 rfl) rfl (hff 0 f0 rfl), one_field (o 1 f1 rfl) rfl (hff 1 f1 rfl), one_field (o 2 f2 rfl) rfl (hff 2 f2 rfl), one_field (o 3 f3 rfl) rfl (hff 3 f3 rfl),
    one_field (o 4 f4 rfl) rfl (hff 4 f4 rfl), one_field (o 5 f5 rfl) rfl (hff 5 f5 rfl), one_field (o 6 f6 rfl) rfl (hff 6 f6 rfl), one_field (o 7 f7 rfl) rfl (hff 7 f7 rfl)⟩
set_option maxRecDepth 100000 in
set_option maxHeartbeats 1000000 in
theorem open_ask {b0 : Nat} {v : Value} {d : DataW H} {p : List MemPlace} (hv : Value.okWide Tryf.prog W .any b0 24 v) (h : DataW.Trod enc Tryf.prog W 0 (fun _ => true) true 24 v d p) :
    ∃ (a : PfA) (st : Bool) (dv : Value), v = .agg #[.int .i64 a.scheme, .string a.realm, .string a.nonce, .string a.opq, .bool a.sess, .string a.qop, .bool st, dv] ∧ (ReachK 24 d → AskZ a) := by
  obtain ⟨c0, c1, c2, c3, c4, c5, c6, c7, y0, y1, y2, y3, y4, y5, y6, y7, n, rfl, rfl, g0, g1, g2, g3, g4, g5, g6, g7⟩ := open_ask8 Tryf.underlying24 (by kernel_rfl) (by kernel_rfl) hv h
  obtain ⟨s0, e0, rfl, _⟩ := DataW.trod_int Tryf.underlying3 g0
  obtain ⟨s1, e1, rfl, _⟩ := DataW.trod_string Tryf.underlying9 g1
  obtain ⟨s2, e2, rfl, _⟩ := DataW.trod_string Tryf.underlying9 g2
  obtain ⟨s3, e3, rfl, _⟩ := DataW.trod_string Tryf.underlying9 g3
  obtain ⟨s4, e4, rfl⟩ := DataW.trod_bool Tryf.underlying4 g4
  obtain ⟨s5, e5, rfl, _⟩ := DataW.trod_string Tryf.underlying9 g5
  obtain ⟨s6, e6, rfl⟩ := DataW.trod_bool Tryf.underlying4 g6
  simp only [List.cons.injEq, and_true] at e0 e1 e2 e3 e4 e5 e6
  subst e0 e1 e2 e3 e4 e5 e6
  refine ⟨⟨s0, s1, s2, s3, s4, s5⟩, s6, c7, rfl, fun hw => ?_⟩
  have w1 := hw s1.data.toList.length (by simp [DataW.weights, DataW.weightsEach, Tryf.underlying24])
  have w2 := hw s2.data.toList.length (by simp [DataW.weights, DataW.weightsEach, Tryf.underlying24])
  have w3 := hw s3.data.toList.length (by simp [DataW.weights, DataW.weightsEach, Tryf.underlying24])
  have w5 := hw s5.data.toList.length (by simp [DataW.weights, DataW.weightsEach, Tryf.underlying24])
  rw [Array.length_toList] at w1 w2 w3 w5
  exact ⟨w1, w2, w3, w5⟩
end
end Go.Proofs.YtooaiamfbmjmnaaFmt
