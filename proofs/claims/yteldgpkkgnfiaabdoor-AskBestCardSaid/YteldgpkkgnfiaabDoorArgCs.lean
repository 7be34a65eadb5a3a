/- Rows of challenges that came in: opened down to their parameters. -/
import Derived.Test.YteldgpkkgnfiaabDoorArgC
namespace Go.Proofs.YteldgpkkgnfiaabDoor
open Go.ChangeShapes Go.WideShapes Go.ChangeAt Go.RowKit Go.Joins

instance : Inhabited ChV := ⟨⟨⟨⟨#[]⟩, ⟨#[]⟩, []⟩, none, 0, 0, 0⟩⟩
section
variable {H : Type} {enc : TypeId × Value → H} {W : World}
set_option maxRecDepth 100000 in
theorem open_chals {fuel : Nat} {v : Value} {x : DataW H × List MemPlace} (h : DataW.trod enc Tryd.prog W 0 (fun _ => true) true fuel 23 [v] = some x) :
    ∃ (a0 : Option Addr) (len cap b off : Nat) (cs : List ChV), v = .slice a0 len cap ∧ len ≤ 9223372036854775807 ∧ Chals W a0 len b off cs ∧ (∀ c ∈ cs, Room c) ∧ (Reach 23 x.1 → ∀ c ∈ cs, Held c.x) := by
  rcases Go.Deep.open_slice Tryd.underlying23 h with ⟨hcs, hx⟩ | ⟨a, len, cap, m, n, D, Pl, hcs, _, hl, hm, hmm, hx, hall⟩
  · simp only [List.cons.injEq, and_true] at hcs
    exact ⟨none, 0, 0, 0, 0, [], hcs, by omega, ⟨rfl, fun h => absurd h (by omega), (fun j p hp => by simp at hp), (fun j p hp => by simp at hp), (fun j p hp => by simp at hp), fun c hc => by cases hc⟩, (fun c hc => by cases hc), fun _ c hc => by cases hc⟩
  · simp only [List.cons.injEq, and_true] at hcs
    simp only [if_true] at hmm
    obtain rfl := hmm.symm
    unfold maxLen at hm
    rw [cellsC] at hall
    have each : ∀ i, i < cap → ∃ c : ChV, W.cell? (a.add (i * 3)) = some (.string c.x.scheme) ∧ W.cell? (a.add (i * 3 + 1)) = some (.string c.x.token) ∧ W.cell? (a.add (i * 3 + 2)) = some (.slice c.a c.len c.cap) ∧ ChOk W c ∧ Room c ∧ (Reach 33 (D i) → Held c.x) := fun i hi => by
      obtain ⟨cs', h1, h2⟩ := hall i hi
      obtain ⟨_, hlen, hcell⟩ := World.cells?_some h1
      obtain ⟨y0, y1, y2, k, hxy, _, g0, g1, g2⟩ := Go.Deep.trod_struct3 Tryd.underlying33 h2
      match cs', hlen with
      | [v0, v1, v2], _ =>
        have c9 : Tryd.prog.cellsOf 9 = 1 := by kernel_rfl
        have cP : Tryd.prog.cellsOf 31 = 1 := by kernel_rfl
        simp [c9, cP] at g0 g1 g2
        obtain ⟨c, rfl, rfl, rfl, k1, k2, k3⟩ := open_chalOf g0 g1 g2
        simp only [Prod.mk.injEq] at hxy
        have e0 := hcell 0 (by omega)
        have e1 := hcell 1 (by omega)
        have e2 := hcell 2 (by omega)
        rw [Go.Deep.add_add] at e0 e1 e2
        exact ⟨c, by simpa using e0, by simpa using e1, by simpa using e2, k1, k2, fun hr => k3 (by rw [← hxy.1]; exact hr)⟩
    obtain ⟨C, hC⟩ := Go.Deep.choose_lt each
    obtain ⟨b, off, spot⟩ := a
    have hget : ∀ (j : Nat) (c : ChV), ((List.range len).map C)[j]? = some c → j < len ∧ c = C j := fun j p hp => by
      rw [List.getElem?_map] at hp
      by_cases hj : j < len
      · rw [List.getElem?_range hj] at hp
        simp only [Option.map_some, Option.some.injEq] at hp
        exact ⟨hj, hp.symm⟩
      · rw [List.getElem?_eq_none (by simp; omega)] at hp
        cases hp
    have hspot : 0 < len → spot = none := fun h0 => by simpa [Addr.add] using World.cell?_spot (hC 0 (by omega)).1
    refine ⟨some ⟨b, off, spot⟩, len, cap, b, off, (List.range len).map C, hcs, by omega, ⟨by simp, fun h0 => ?_, fun j c hc => ?_, fun j c hc => ?_, fun j c hc => ?_, fun c hc => ?_⟩, fun c hc => ?_, fun hr c hc => ?_⟩
    · obtain rfl := hspot h0
      refine ⟨rfl, ?_⟩
      have hc := (hC 0 (by omega)).1
      rcases Nat.lt_or_ge b W.heap.size with h1 | h1
      · exact h1
      · simp [World.cell?, Addr.add, Array.getElem?_eq_none h1] at hc
    · obtain ⟨hj, rfl⟩ := hget j c hc
      obtain rfl := hspot (by omega)
      rw [← add_plain]
      exact (hC j (by omega)).1
    · obtain ⟨hj, rfl⟩ := hget j c hc
      obtain rfl := hspot (by omega)
      rw [Nat.add_assoc, ← add_plain]
      exact (hC j (by omega)).2.1
    · obtain ⟨hj, rfl⟩ := hget j c hc
      obtain rfl := hspot (by omega)
      rw [Nat.add_assoc, ← add_plain]
      exact (hC j (by omega)).2.2.1
    · obtain ⟨i, hi, rfl⟩ := List.mem_map.1 hc
      exact (hC i (by have := List.mem_range.1 hi; omega)).2.2.2.1
    · obtain ⟨i, hi, rfl⟩ := List.mem_map.1 hc
      exact (hC i (by have := List.mem_range.1 hi; omega)).2.2.2.2.1
    · obtain ⟨i, hi, rfl⟩ := List.mem_map.1 hc
      refine (hC i (by have := List.mem_range.1 hi; omega)).2.2.2.2.2 fun n hn => hr n ?_
      rw [hx]
      exact weights_slice Tryd.underlying23 (List.mem_map.2 ⟨i, hi, rfl⟩) n hn
/-- A row of challenges that came in. -/
theorem open_chalsT {v : Value} {d : DataW H} {p : List MemPlace} {a : Option Addr} {n k : Nat} (h : DataW.Trod enc Tryd.prog W 0 (fun _ => true) true 23 v d p) (hv : v = .slice a n k) :
    ∃ (b off : Nat) (cs : List ChV), n ≤ 9223372036854775807 ∧ Chals W a n b off cs ∧ (∀ c ∈ cs, Room c) ∧ (Reach 23 d → ∀ c ∈ cs, Held c.x) := by
  subst hv
  obtain ⟨fuel, hf⟩ := h
  obtain ⟨a0, len, cap, b, off, cs, e, h1, h2, h3, h4⟩ := open_chals (v := .slice a n k) (by simpa [Value.cells] using hf)
  injection e with e1 e2 e3
  subst e1 e2 e3
  exact ⟨b, off, cs, h1, h2, h3, h4⟩
end
end Go.Proofs.YteldgpkkgnfiaabDoor
