/- Texts of one claim, joined: each begins with what it proves. -/
import Derived.Test.YtemlclgdgnfhnaaDoorJo4
import Derived.Test.YtemlclgdgnfhnaaDoorJo2
import Derived.LaidMore
import Derived.LaidHandle
/- Rows of grants that came in: opened down to their lists. -/
namespace Go.Proofs.YtemlclgdgnfhnaaDoor
open Go.ChangeShapes Go.WideShapes Go.ChangeAt Go.RowKit Go.Joins
set_option linter.unusedVariables false

instance : Inhabited GrA := ⟨⟨⟨⟨false, ⟨#[]⟩, 0⟩, false, ⟨#[]⟩, ⟨#[]⟩, ⟨0, ⟨#[]⟩, ⟨#[]⟩, ⟨#[]⟩, false, ⟨#[]⟩, false, []⟩, 0, []⟩, none, 0, 0, 0, none, 0, 0, 0⟩⟩
theorem lst2 {α : Type} {l : List α} (h : l.length = 2) : ∃ c0 c1, l = [c0, c1] := by
  match l, h with
  | [c0, c1], _ => exact ⟨c0, c1, rfl⟩
theorem lst3 {α : Type} {l : List α} (h : l.length = 3) : ∃ c0 c1 c2, l = [c0, c1, c2] := by
  match l, h with
  | [c0, c1, c2], _ => exact ⟨c0, c1, c2, rfl⟩
theorem lst6 {α : Type} {l : List α} (h : l.length = 6) : ∃ c0 c1 c2 c3 c4 c5, l = [c0, c1, c2, c3, c4, c5] := by
  match l, h with
  | [c0, c1, c2, c3, c4, c5], _ => exact ⟨c0, c1, c2, c3, c4, c5, rfl⟩
theorem lst8 {α : Type} {l : List α} (h : l.length = 8) : ∃ c0 c1 c2 c3 c4 c5 c6 c7, l = [c0, c1, c2, c3, c4, c5, c6, c7] := by
  match l, h with
  | [c0, c1, c2, c3, c4, c5, c6, c7], _ => exact ⟨c0, c1, c2, c3, c4, c5, c6, c7, rfl⟩
section
variable {H : Type} {enc : TypeId × Value → H} {W : World}
theorem open_strsAt {fuel : Nat} {v : Value} {x : DataW H × List MemPlace} (h : DataW.trod enc Tryd.prog W 0 (fun _ => true) true fuel 30 [v] = some x) :
    ∃ (a0 : Option Addr) (cap b off : Nat) (xs : List ByteArray), v = .slice a0 xs.length cap ∧ Strs W a0 xs.length b off xs ∧ (Reach 30 x.1 → ∀ s ∈ xs, s.size ≤ 140737488355328) := by
  rcases Go.Deep.open_strs Tryd.underlying30 Tryd.underlying9 (by kernel_rfl) h with ⟨hcs, hx⟩ | ⟨a, len, cap, m, Sx, hcs, _, hl, hm, hmm, hx, hall⟩
  · simp only [List.cons.injEq, and_true] at hcs
    exact ⟨none, 0, 0, 0, [], hcs, ⟨rfl, fun h => absurd h (by simp), (fun j p hp => by simp at hp)⟩, fun _ s hs => by cases hs⟩
  · simp only [List.cons.injEq, and_true] at hcs
    simp only [if_true] at hmm
    obtain rfl := hmm.symm
    obtain ⟨b, off, spot⟩ := a
    have hspot : 0 < len → spot = none := fun h0 => by simpa [Addr.add] using World.cell?_spot (hall 0 (by omega)).1
    refine ⟨some ⟨b, off, spot⟩, cap, b, off, (List.range len).map Sx, by simpa using hcs, ⟨rfl, fun h0 => ?_, fun j p hp => ?_⟩, fun hr s hs => ?_⟩
    · have h0' : 0 < len := by simpa using h0
      obtain rfl := hspot h0'
      refine ⟨rfl, ?_⟩
      have hc := (hall 0 (by omega)).1
      rcases Nat.lt_or_ge b W.heap.size with h1 | h1
      · exact h1
      · simp [World.cell?, Addr.add, Array.getElem?_eq_none h1] at hc
    · rw [List.getElem?_map] at hp
      by_cases hj : j < len
      · rw [List.getElem?_range hj] at hp
        simp only [Option.map_some, Option.some.injEq] at hp
        subst hp
        obtain rfl := hspot (by omega)
        rw [← add_plain]
        exact (hall j (by omega)).1
      · rw [List.getElem?_eq_none (by simp; omega)] at hp
        cases hp
    · obtain ⟨i, hi, rfl⟩ := List.mem_map.1 hs
      have h1 := hr (Sx i).data.toList.length (by
        rw [hx]
        exact weights_slice Tryd.underlying30 (List.mem_map.2 ⟨i, hi, rfl⟩) _ (by simp [DataW.weights]))
      rw [Array.length_toList] at h1
      exact h1
set_option maxRecDepth 100000 in
set_option maxHeartbeats 4000000 in
/-- A grant among the cells of a row. -/
theorem open_grantAt {fuel : Nat} {c0 c1 c2 c3 c4 c5 c6 c7 c8 c9 c10 c11 c12 c13 c14 c15 : Value} {x : DataW H × List MemPlace} (h : DataW.trod enc Tryd.prog W 0 (fun _ => true) true fuel 34 [c0, c1, c2, c3, c4, c5, c6, c7, c8, c9, c10, c11, c12, c13, c14, c15] = some x) :
    ∃ v : GrA, [c0, c1, c2, c3, c4, c5, c6, c7, c8, c9, c10, c11, c12, c13, c14, c15] = grCells v.val ∧ Strs W v.da v.g.ask.dom.length v.db v.doff v.g.ask.dom ∧ Strs W v.pa v.g.paths.length v.pb v.poff v.g.paths ∧ (Reach 34 x.1 → GrZ v.g) := by
  obtain ⟨xs, n, rfl, rfl, _, hlen, hff⟩ := DataW.trod_struct Tryd.underlying34 h
  obtain ⟨y0, y1, y2, y3, y4, y5, rfl⟩ := lst6 (hlen.trans rfl)
  have g0 : DataW.trod enc Tryd.prog W 0 (fun _ => true) true n 24 [c0, c1, c2] = some y0 := hff 0 _ rfl
  have g1 : DataW.trod enc Tryd.prog W 0 (fun _ => true) true n 4 [c3] = some y1 := hff 1 _ rfl
  have g2 : DataW.trod enc Tryd.prog W 0 (fun _ => true) true n 29 [c4, c5] = some y2 := hff 2 _ rfl
  have g3 : DataW.trod enc Tryd.prog W 0 (fun _ => true) true n 32 [c6, c7, c8, c9, c10, c11, c12, c13] = some y3 := hff 3 _ rfl
  have g4 : DataW.trod enc Tryd.prog W 0 (fun _ => true) true n 3 [c14] = some y4 := hff 4 _ rfl
  have g5 : DataW.trod enc Tryd.prog W 0 (fun _ => true) true n 30 [c15] = some y5 := hff 5 _ rfl
  clear hff h
  obtain ⟨os', n0, _, ho, _, hl0, hf0⟩ := DataW.trod_struct Tryd.underlying24 g0
  obtain ⟨o0, o1, o2, rfl⟩ := lst3 (hl0.trans rfl)
  have p0 : DataW.trod enc Tryd.prog W 0 (fun _ => true) true n0 4 [c0] = some o0 := hf0 0 _ rfl
  have p1 : DataW.trod enc Tryd.prog W 0 (fun _ => true) true n0 9 [c1] = some o1 := hf0 1 _ rfl
  have p2 : DataW.trod enc Tryd.prog W 0 (fun _ => true) true n0 3 [c2] = some o2 := hf0 2 _ rfl
  clear hf0
  obtain ⟨sec, e0, rfl⟩ := DataW.trod_bool Tryd.underlying4 p0
  obtain ⟨host, e1, rfl, _⟩ := DataW.trod_string Tryd.underlying9 p1
  obtain ⟨port, e2, rfl, _⟩ := DataW.trod_int Tryd.underlying3 p2
  obtain ⟨px, e3, rfl⟩ := DataW.trod_bool Tryd.underlying4 g1
  obtain ⟨cs', n1, _, hc, _, hl1, hf1⟩ := DataW.trod_struct Tryd.underlying29 g2
  obtain ⟨r0, r1, rfl⟩ := lst2 (hl1.trans rfl)
  have q0 : DataW.trod enc Tryd.prog W 0 (fun _ => true) true n1 9 [c4] = some r0 := hf1 0 _ rfl
  have q1 : DataW.trod enc Tryd.prog W 0 (fun _ => true) true n1 9 [c5] = some r1 := hf1 1 _ rfl
  clear hf1
  obtain ⟨us, e4, rfl, _⟩ := DataW.trod_string Tryd.underlying9 q0
  obtain ⟨pw, e5, rfl, _⟩ := DataW.trod_string Tryd.underlying9 q1
  obtain ⟨as', n2, _, ha, _, hl2, hf2⟩ := DataW.trod_struct Tryd.underlying32 g3
  obtain ⟨s0, s1, s2, s3, s4, s5, s6, s7, rfl⟩ := lst8 (hl2.trans rfl)
  have t0 : DataW.trod enc Tryd.prog W 0 (fun _ => true) true n2 3 [c6] = some s0 := hf2 0 _ rfl
  have t1 : DataW.trod enc Tryd.prog W 0 (fun _ => true) true n2 9 [c7] = some s1 := hf2 1 _ rfl
  have t2 : DataW.trod enc Tryd.prog W 0 (fun _ => true) true n2 9 [c8] = some s2 := hf2 2 _ rfl
  have t3 : DataW.trod enc Tryd.prog W 0 (fun _ => true) true n2 9 [c9] = some s3 := hf2 3 _ rfl
  have t4 : DataW.trod enc Tryd.prog W 0 (fun _ => true) true n2 4 [c10] = some s4 := hf2 4 _ rfl
  have t5 : DataW.trod enc Tryd.prog W 0 (fun _ => true) true n2 9 [c11] = some s5 := hf2 5 _ rfl
  have t6 : DataW.trod enc Tryd.prog W 0 (fun _ => true) true n2 4 [c12] = some s6 := hf2 6 _ rfl
  have t7 : DataW.trod enc Tryd.prog W 0 (fun _ => true) true n2 30 [c13] = some s7 := hf2 7 _ rfl
  clear hf2
  obtain ⟨sch, e6, rfl, _⟩ := DataW.trod_int Tryd.underlying3 t0
  obtain ⟨rlm, e7, rfl, _⟩ := DataW.trod_string Tryd.underlying9 t1
  obtain ⟨non, e8, rfl, _⟩ := DataW.trod_string Tryd.underlying9 t2
  obtain ⟨opq, e9, rfl, _⟩ := DataW.trod_string Tryd.underlying9 t3
  obtain ⟨ses, e10, rfl⟩ := DataW.trod_bool Tryd.underlying4 t4
  obtain ⟨qop, e11, rfl, _⟩ := DataW.trod_string Tryd.underlying9 t5
  obtain ⟨stl, e12, rfl⟩ := DataW.trod_bool Tryd.underlying4 t6
  obtain ⟨da, dc, db, doff, dm, rfl, hdm, rdm⟩ := open_strsAt t7
  obtain ⟨cnt, e14, rfl, wcnt⟩ := DataW.trod_int Tryd.underlying3 g4
  obtain ⟨pa, pc, pb, poff, pt, rfl, hpt, rpt⟩ := open_strsAt g5
  simp only [List.cons.injEq, and_true] at e0 e1 e2 e3 e4 e5 e6 e7 e8 e9 e10 e11 e12 e14
  subst e0 e1 e2 e3 e4 e5 e6 e7 e8 e9 e10 e11 e12 e14
  refine ⟨⟨⟨⟨sec, host, port⟩, px, us, pw, ⟨sch, rlm, non, opq, ses, qop, stl, dm⟩, cnt, pt⟩, da, dc, db, doff, pa, pc, pb, poff⟩, rfl, hdm, hpt, fun hr => ?_⟩
  subst ho hc ha
  have w0 := hr host.data.toList.length (by simp [DataW.weights, DataW.weightsEach, Tryd.underlying34, Tryd.underlying24])
  have w1 := hr us.data.toList.length (by simp [DataW.weights, DataW.weightsEach, Tryd.underlying34, Tryd.underlying29])
  have w2 := hr pw.data.toList.length (by simp [DataW.weights, DataW.weightsEach, Tryd.underlying34, Tryd.underlying29])
  have w3 := hr rlm.data.toList.length (by simp [DataW.weights, DataW.weightsEach, Tryd.underlying34, Tryd.underlying32])
  have w4 := hr non.data.toList.length (by simp [DataW.weights, DataW.weightsEach, Tryd.underlying34, Tryd.underlying32])
  have w5 := hr opq.data.toList.length (by simp [DataW.weights, DataW.weightsEach, Tryd.underlying34, Tryd.underlying32])
  have w6 := hr qop.data.toList.length (by simp [DataW.weights, DataW.weightsEach, Tryd.underlying34, Tryd.underlying32])
  rw [Array.length_toList] at w0 w1 w2 w3 w4 w5 w6
  have d1 := rdm fun k hk => hr k (by simp [DataW.weights, DataW.weightsEach, Tryd.underlying34, Tryd.underlying32, hk])
  have d2 := rpt fun k hk => hr k (by simp [DataW.weights, DataW.weightsEach, Tryd.underlying34, hk])
  refine ⟨w0, w1, w2, w3, w4, w5, w6, d1, d2, ?_⟩
  simp only [Lit.wf, Bool.and_eq_true, decide_eq_true_eq] at wcnt
  have e1 : IntKind.i64.min = -9223372036854775808 := by decide
  show -9223372036854775808 ≤ cnt
  omega
theorem cells16 : Tryd.prog.cellsOf 34 = 16 := by kernel_rfl
set_option maxRecDepth 100000 in
set_option maxHeartbeats 2000000 in
theorem open_grants {fuel : Nat} {v : Value} {x : DataW H × List MemPlace} (h : DataW.trod enc Tryd.prog W 0 (fun _ => true) true fuel 22 [v] = some x) :
    ∃ (a0 : Option Addr) (len cap b off : Nat) (gs : List GrA), v = .slice a0 len cap ∧ len ≤ 9223372036854775807 ∧ Grs W a0 len b off gs ∧ (Reach 22 x.1 → ∀ g ∈ gs, GrZ g.g) := by
  rcases Go.Deep.open_slice Tryd.underlying22 h with ⟨hcs, hx⟩ | ⟨a, len, cap, m, n, D, Pl, hcs, _, hl, hm, hmm, hx, hall⟩
  · simp only [List.cons.injEq, and_true] at hcs
    exact ⟨none, 0, 0, 0, 0, [], hcs, by omega, ⟨rfl, fun h => absurd h (by omega), (fun j p hp => by simp at hp), (fun c hc => by cases hc), fun c hc => by cases hc⟩, fun _ c hc => by cases hc⟩
  · simp only [List.cons.injEq, and_true] at hcs
    simp only [if_true] at hmm
    obtain rfl := hmm.symm
    unfold maxLen at hm
    rw [cells16] at hall
    have each : ∀ i, i < cap → ∃ g : GrA, (∀ (j : Nat) (u : Value), (grCells g.val)[j]? = some u → W.cell? (a.add (i * 16 + j)) = some u) ∧ Strs W g.da g.g.ask.dom.length g.db g.doff g.g.ask.dom ∧ Strs W g.pa g.g.paths.length g.pb g.poff g.g.paths ∧ (Reach 34 (D i) → GrZ g.g) := fun i hi => by
      obtain ⟨cs', h1, h2⟩ := hall i hi
      obtain ⟨_, hlen, hcell⟩ := World.cells?_some h1
      match cs', hlen with
      | [c0, c1, c2, c3, c4, c5, c6, c7, c8, c9, c10, c11, c12, c13, c14, c15], _ =>
        obtain ⟨g, e, k1, k2, k3⟩ := open_grantAt h2
        refine ⟨g, fun j u hj => ?_, k1, k2, k3⟩
        have hj16 : j < 16 := (List.getElem?_eq_some_iff.1 hj).1
        have e0 := hcell j hj16
        rw [Go.Deep.add_add] at e0
        rw [e0, e, hj]
    obtain ⟨C, hC⟩ := Go.Deep.choose_lt each
    obtain ⟨b, off, spot⟩ := a
    have hget : ∀ (j : Nat) (c : GrA), ((List.range len).map C)[j]? = some c → j < len ∧ c = C j := fun j p hp => by
      rw [List.getElem?_map] at hp
      by_cases hj : j < len
      · rw [List.getElem?_range hj] at hp
        simp only [Option.map_some, Option.some.injEq] at hp
        exact ⟨hj, hp.symm⟩
      · rw [List.getElem?_eq_none (by simp; omega)] at hp
        cases hp
    have hspot : 0 < len → spot = none := fun h0 => by simpa [Addr.add] using World.cell?_spot ((hC 0 (by omega)).1 0 _ rfl)
    refine ⟨some ⟨b, off, spot⟩, len, cap, b, off, (List.range len).map C, hcs, by omega, ⟨by simp, fun h0 => ?_, fun j c hc i u hu => ?_, fun c hc => ?_, fun c hc => ?_⟩, fun hr c hc => ?_⟩
    · obtain rfl := hspot h0
      refine ⟨rfl, ?_⟩
      have hc := (hC 0 (by omega)).1 0 _ rfl
      rcases Nat.lt_or_ge b W.heap.size with h1 | h1
      · exact h1
      · simp [World.cell?, Addr.add, Array.getElem?_eq_none h1] at hc
    · obtain ⟨hj, rfl⟩ := hget j c hc
      obtain rfl := hspot (by omega)
      rw [Nat.add_assoc, ← add_plain]
      exact (hC j (by omega)).1 i u hu
    · obtain ⟨i, hi, rfl⟩ := List.mem_map.1 hc
      exact (hC i (by have := List.mem_range.1 hi; omega)).2.1
    · obtain ⟨i, hi, rfl⟩ := List.mem_map.1 hc
      exact (hC i (by have := List.mem_range.1 hi; omega)).2.2.1
    · obtain ⟨i, hi, rfl⟩ := List.mem_map.1 hc
      refine (hC i (by have := List.mem_range.1 hi; omega)).2.2.2 fun n hn => hr n ?_
      rw [hx]
      exact weights_slice Tryd.underlying22 (List.mem_map.2 ⟨i, hi, rfl⟩) n hn
/-- A row of grants that came in. -/
theorem open_grantsT {v : Value} {d : DataW H} {p : List MemPlace} {a : Option Addr} {n k : Nat} (h : DataW.Trod enc Tryd.prog W 0 (fun _ => true) true 22 v d p) (hv : v = .slice a n k) :
    ∃ (b off : Nat) (gs : List GrA), n ≤ 9223372036854775807 ∧ Grs W a n b off gs ∧ (Reach 22 d → ∀ g ∈ gs, GrZ g.g) := by
  subst hv
  obtain ⟨fuel, hf⟩ := h
  obtain ⟨a0, len, cap, b, off, gs, e, h1, h2, h3⟩ := open_grants (v := .slice a n k) hf
  injection e with e1 e2 e3
  subst e1 e2 e3
  exact ⟨b, off, gs, h1, h2, h3⟩
end
end Go.Proofs.YtemlclgdgnfhnaaDoor

/- What the row lays of the library's own variable is what errors.As asks for. -/
namespace Go.Proofs.YtemlclgdgnfhnaaDoor
open Go.RowKit

theorem etAt : Tryd.prog.globalNamed "errors.errorType" = some 0 := by kernel_rfl
theorem rtAt : (Tryd.prog.cutTypes.find? (·.1 == "internal/reflectlite.rtype")).map (·.2) = some 94 := by kernel_rfl
theorem oneError : ((List.range Tryd.prog.types.size).filter fun t => Tryd.prog.rowNamed t [101, 114, 114, 111, 114]) = [43] := by kernel_rfl
theorem errT_of_handles {W : World} (h : handlesMet Tryd.prog [("errors.errorType", Rows.laid_errors_errorType)] W) : ErrT W := by
  obtain ⟨name, u, ty, e1, e2, e3, e4, e5⟩ := h _ (List.mem_singleton.2 rfl)
  have en : name = [101, 114, 114, 111, 114] := (Option.some.inj e1).symm
  subst en
  obtain rfl := Option.some.inj (rtAt.symm.trans e2)
  have hm : ty ∈ (List.range Tryd.prog.types.size).filter fun t => Tryd.prog.rowNamed t [101, 114, 114, 111, 114] := List.mem_filter.2 ⟨List.mem_range.2 e3, e4⟩
  rw [oneError] at hm
  obtain rfl := List.mem_singleton.1 hm
  have hh : typeHandle Tryd.prog 43 = .pointer (some ⟨1, 43, none⟩) := by kernel_rfl
  rw [hh] at e5
  have hc : W.cell? ⟨0, 0, none⟩ = some (.iface 94 (.agg #[.pointer (some ⟨1, 43, none⟩)])) := by
    simpa using World.var?_cell etAt e5 0
  refine ⟨hc, ?_⟩
  rcases Nat.lt_or_ge 0 W.heap.size with h | h
  · exact h
  · simp [World.cell?, Array.getElem?_eq_none h] at hc
end Go.Proofs.YtemlclgdgnfhnaaDoor
