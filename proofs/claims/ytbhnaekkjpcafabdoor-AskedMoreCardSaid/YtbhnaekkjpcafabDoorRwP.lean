/- A row of parameters in a block of its own, that may be written; a row cloned. -/
import Derived.Test.YtbhnaekkjpcafabDoorClp
namespace Go.Proofs.YtbhnaekkjpcafabDoor
open Go.RowKit

def RowsP (cur : Array Value) (ps : List Par) : Prop := ∀ (k : Nat) (p : Par), ps[k]? = some p → cur[k * 2]? = some (.string p.1) ∧ cur[k * 2 + 1]? = some (.string p.2)
/-- A row of parameters in a block of its own, that may be written. -/
def RowPW (w : World) (g : Nat) (ps : List Par) : Prop := ∃ cur, w.heap[g]? = some (.cells cur 24 (0, 0)) ∧ RowsP cur ps
theorem RowPW.cells {w : World} {g : Nat} {ps : List Par} (h : RowPW w g ps) (k : Nat) (p : Par) (hk : ps[k]? = some p) : w.cell? ⟨g, k * 2, none⟩ = some (.string p.1) ∧ w.cell? ⟨g, k * 2 + 1, none⟩ = some (.string p.2) := by
  obtain ⟨cur, h1, h2⟩ := h
  obtain ⟨r1, r2⟩ := h2 k p hk
  exact ⟨by simp [World.cell?, h1, r1], by simp [World.cell?, h1, r2]⟩
theorem RowPW.free {w : World} {g : Nat} {ps : List Par} (h : RowPW w g ps) (j : Nat) : w.frozen? ⟨g, j, none⟩ = false := by
  obtain ⟨cur, h1, _⟩ := h
  simp [World.frozen?, h1]
theorem RowPW.lt {w : World} {g : Nat} {ps : List Par} (h : RowPW w g ps) : g < w.heap.size := by
  obtain ⟨cur, h1, _⟩ := h
  exact (Array.getElem?_eq_some_iff.1 h1).1
theorem RowPW.below {w w' : World} {g : Nat} {ps : List Par} (h : RowPW w g ps) (hb : Below w.heap.size w w') : RowPW w' g ps := by
  obtain ⟨cur, h1, h2⟩ := h
  exact ⟨cur, (hb.block g (Array.getElem?_eq_some_iff.1 h1).1).trans h1, h2⟩
theorem RowPW.name {w : World} {g : Nat} {ps : List Par} (h : RowPW w g ps) (i : Nat) (p : Par) (hi : ps[i]? = some p) (n : ByteArray) : RowPW (w.setCell ⟨g, i * 2, none⟩ (.string n)) g (ps.set i (n, p.2)) := by
  obtain ⟨cur, h1, h2⟩ := h
  refine ⟨cur.setIfInBounds (i * 2) (.string n), by simp [World.setCell, Array.getElem?_modify, h1], fun k q hq => ?_⟩
  have hs := (Array.getElem?_eq_some_iff.1 (h2 i p hi).1).1
  rw [List.getElem?_set] at hq
  by_cases e : i = k
  · subst e
    rw [if_pos rfl, if_pos (List.getElem?_eq_some_iff.1 hi).1] at hq
    cases hq
    refine ⟨by rw [Array.getElem?_setIfInBounds, if_pos rfl, if_pos hs], ?_⟩
    rw [Array.getElem?_setIfInBounds, if_neg (by omega)]
    exact (h2 i p hi).2
  · rw [if_neg e] at hq
    rw [Array.getElem?_setIfInBounds, if_neg (by omega), Array.getElem?_setIfInBounds, if_neg (by omega)]
    exact h2 k q hq
theorem rowPW_of {w : World} {B g n cap : Nat} {ps : List Par} (hl : ps.length = n) (h : w.ownsRow B 24 2 (.slice (some ⟨g, 0, none⟩) n cap) n (parCells ps)) : RowPW w g ps ∧ B ≤ g := by
  rcases h.2 with ⟨e, _⟩ | ⟨g', cap', cur, e, hB, hh, _, _, _, ht⟩
  · cases e
  · injection e with e1 e2 e3
    injection e1 with e1
    injection e1 with e1
    subst e1
    refine ⟨⟨cur, hh, fun k c hk => ?_⟩, hB⟩
    obtain ⟨h1, h2⟩ := parCells_at ps k c hk
    have hkl : k < n := by rw [← hl]; exact (List.getElem?_eq_some_iff.1 hk).1
    have tk : ∀ j v, j < n * 2 → (parCells ps)[j]? = some v → cur[j]? = some v := fun j v hj hv => by
      rw [← ht, List.getElem?_take, if_pos hj] at hv
      simpa using hv
    exact ⟨tk _ _ (by omega) h1, tk _ _ (by omega) h2⟩
theorem RowPW.pars {w : World} {g n : Nat} {ps : List Par} (h : RowPW w g ps) (hn : ps.length = n) : Pars w (some ⟨g, 0, none⟩) n g 0 ps :=
  ⟨hn, fun _ => ⟨rfl, h.lt⟩, fun j p hp => by rw [Nat.zero_add]; exact (h.cells j p hp).1, fun j p hp => by rw [Nat.zero_add]; exact (h.cells j p hp).2⟩
theorem cloneP_none (a : Option Addr) (cap : Nat) (w : World) : Calls Tryd.prog 9 #[.slice a 0 cap] w fun e w' => (∃ a' cap', e = .returned (.slice a' 0 cap')) ∧ Below w.heap.size w w' := by
  have h1 := sliceNilP
  have h2 := sliceNoneP
  cases a with
  | none =>
    go_enter Tryd.func9, Tryd.ntmps9
    go_wp2
    go_ret
    exact ⟨⟨_, _, rfl⟩, Below.refl _ _⟩
  | some p =>
    go_enter Tryd.func9, Tryd.ntmps9
    go_wp2
    go_ret
    exact ⟨⟨_, _, rfl⟩, (Below.refl _ _).alloc (Nat.le_refl _) _⟩
/-- The row of names in small letters, where it lies. -/
def CloAns (w : World) (ps : List Par) (n : Nat) (v : Value) (B : Nat) : Prop := ∃ a cap, v = .slice a n cap ∧ (n = 0 ∨ ∃ g, a = some ⟨g, 0, none⟩ ∧ RowPW w g ps ∧ B ≤ g)
theorem cloneP_all (ps : List Par) (a0 : Option Addr) (len cap b off : Nat) (hlen : len ≤ 1000) (w : World) (hx : Pars w a0 len b off ps) :
    Calls Tryd.prog 9 #[.slice a0 len cap] w fun e w' => (∃ v, e = .returned v ∧ CloAns w' ps len v w.heap.size) ∧ Below w.heap.size w w' := by
  rcases Nat.eq_zero_or_pos len with h0 | h0
  · subst h0
    refine (cloneP_none a0 cap w).mono ?_
    rintro e w' ⟨⟨a', cap', rfl⟩, hb⟩
    exact ⟨⟨_, rfl, a', cap', rfl, .inl rfl⟩, hb⟩
  · refine (cloneP_any ps a0 len cap b off hlen w hx h0).mono ?_
    rintro e w' ⟨⟨g, cap', rfl, hown⟩, hb⟩
    obtain ⟨h1, h2⟩ := rowPW_of hx.len_eq hown
    exact ⟨⟨_, rfl, _, cap', rfl, .inr ⟨g, rfl, h1, h2⟩⟩, hb⟩
end Go.Proofs.YtbhnaekkjpcafabDoor
