/- A row of parameters, cloned. -/
import Derived.Test.YtbhnaekkjpcafabDoorAppP
namespace Go.Proofs.YtbhnaekkjpcafabDoor
open Go.RowKit

theorem parCells_len (ps : List Par) : (parCells ps).length = ps.length * 2 := by
  induction ps with
  | nil => rfl
  | cons c r ih => simp only [parCells, List.length_cons, ih]; omega
theorem parCells_one (ps : List Par) : ∀ u ∈ parCells ps, u.oneCell' = true := by
  induction ps with
  | nil => intro u hu; cases hu
  | cons c r ih =>
    intro u hu
    simp only [parCells, List.mem_cons] at hu
    rcases hu with rfl | rfl | hu
    · rfl
    · rfl
    · exact ih u hu
theorem parCells_of : ∀ (ps : List Par) (j : Nat) (u : Value), (parCells ps)[j]? = some u → ∃ (i : Nat) (p : Par), ps[i]? = some p ∧ (j = i * 2 ∧ u = .string p.1 ∨ j = i * 2 + 1 ∧ u = .string p.2)
  | [], j, u, h => by simp [parCells] at h
  | p :: r, 0, u, h => ⟨0, p, rfl, .inl ⟨rfl, by simpa [parCells] using h.symm⟩⟩
  | p :: r, 1, u, h => ⟨0, p, rfl, .inr ⟨rfl, by simpa [parCells] using h.symm⟩⟩
  | p :: r, j + 2, u, h => by
    obtain ⟨i, d, h1, h2⟩ := parCells_of r j u (by simpa [parCells] using h)
    refine ⟨i + 1, d, by simpa using h1, ?_⟩
    rcases h2 with ⟨e, h2⟩ | ⟨e, h2⟩
    · exact .inl ⟨by omega, h2⟩
    · exact .inr ⟨by omega, h2⟩
theorem pars_cells {w : World} {a0 : Option Addr} {len b off : Nat} {ps : List Par} (h : Pars w a0 len b off ps) (j : Nat) (u : Value) (hu : (parCells ps)[j]? = some u) : w.cell? ((⟨b, off, none⟩ : Addr).add j) = some u := by
  obtain ⟨i, c, h1, h2⟩ := parCells_of ps j u hu
  rw [WideShapes.add_plain]
  rcases h2 with ⟨rfl, rfl⟩ | ⟨rfl, rfl⟩
  · exact h.one i c h1
  · rw [← Nat.add_assoc]; exact h.two i c h1
theorem wp_clonep {ops : Array Oper} {rest : List Oper} {o : Oper} {a : Act} {Q : Exit → Act → World → Prop} (hgd : o.guard = none) (s x : Operand)
    (ho : o.op = .call { callee := .builtin .append, args := #[s, x], argTypes := #[22, 22] })
    (w : World) (hs : a.eval s = .slice (some ⟨w.heap.size, 0, none⟩) 0 0) (ps : List Par) (b off len cap : Nat) (hx : a.eval x = .slice (some ⟨b, off, none⟩) len cap) (hX : Pars w (some ⟨b, off, none⟩) len b off ps) (h0 : 0 < len) (hl : len ≤ 1000)
    (h : ∀ g cap w', w'.ownsRow w.heap.size 24 2 (.slice (some ⟨g, 0, none⟩) len cap) len (parCells ps) → Below w.heap.size w w' → wpList Tryd.prog ops Q rest (a.put o.dst (.slice (some ⟨g, 0, none⟩) len cap)) w') :
    wpList Tryd.prog ops Q (o :: rest) a (w.alloc (.cells #[] 24)) := by
  have hb1 : Below w.heap.size w (w.alloc (.cells #[] 24)) := (Below.refl _ _).alloc (Nat.le_refl _) _
  obtain ⟨i0, hi0, hz0, hz1, hz2⟩ := info_parts infoP
  have hlen := hX.len_eq
  refine wpList_append_lies _ hgd s x 22 ho w.heap.size 24 i0 (.agg #[.string ⟨#[]⟩, .string ⟨#[]⟩]) 2 32 Tryd.underlying22 hi0 hz0 hz1 hz2 rfl (by omega) _ 0 [] hs ⟨rfl, .inr ⟨w.heap.size, 0, #[], rfl, Nat.le_refl _, heap_alloc_new w _, Nat.le_refl _, Nat.zero_le _, rfl, rfl⟩⟩ ⟨b, off, none⟩ len cap (parCells ps) hx (by rw [parCells_len, hlen])
    (pars_cells (hX.below hb1)) (parCells_one ps) h0 (by unfold maxLen; omega) (by omega) (by simp) _ rfl ?_
  intro g cap' w' hown1 hgrow _ hlt
  rw [Nat.zero_add, List.nil_append] at hown1
  rw [Nat.zero_add]
  exact h g cap' w' hown1 (hb1.grown hgrow hb1.size (fun i hi => by have hi' : w.heap.size = i := by simpa [Value.ownBlock] using hi
                                                                    omega))
theorem sliceNilP (p : Addr) (n c : Nat) (w : World) : (binOp .eql 22 (.slice (some p) n c) (.slice none 0 0)).run Tryd.prog w = .ok (.bool false) w := by kernel_rfl
theorem sliceNoneP (n c : Nat) (w : World) : (binOp .eql 22 (.slice none n c) (.slice none 0 0)).run Tryd.prog w = .ok (.bool true) w := by kernel_rfl
set_option maxRecDepth 100000 in
set_option maxHeartbeats 2000000 in
theorem cloneP_any (ps : List Par) (a0 : Option Addr) (len cap b off : Nat) (hlen : len ≤ 1000) (w : World) (hx : Pars w a0 len b off ps) (h0 : 0 < len) :
    Calls Tryd.prog 9 #[.slice a0 len cap] w fun e w' => (∃ g cap', e = .returned (.slice (some ⟨g, 0, none⟩) len cap') ∧ w'.ownsRow w.heap.size 24 2 (.slice (some ⟨g, 0, none⟩) len cap') len (parCells ps)) ∧ Below w.heap.size w w' := by
  obtain ⟨ha0, hbl⟩ := hx.lies h0
  subst ha0
  have HX : Hid (Pars w (some ⟨b, off, none⟩) len b off ps) := hx
  clear hx
  have hnil := sliceNilP
  go_enter Tryd.func9, Tryd.ntmps9
  go_wp2_with (at_builtin; refine wp_clonep rfl _ _ rfl w rfl ps b off len cap rfl HX.out h0 hlen ?_; intro g cap' w' hown hb)
  go_ret
  exact ⟨⟨_, _, rfl, hown⟩, hb⟩
end Go.Proofs.YtbhnaekkjpcafabDoor
