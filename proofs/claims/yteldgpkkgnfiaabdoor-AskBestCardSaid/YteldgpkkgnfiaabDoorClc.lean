/- A row of challenges, cloned. -/
import Derived.Test.YteldgpkkgnfiaabDoorAppC
namespace Go.Proofs.YteldgpkkgnfiaabDoor
open Go.RowKit

theorem chCells_len (cs : List ChV) : (chCells cs).length = cs.length * 3 := by
  induction cs with
  | nil => rfl
  | cons c r ih => simp only [chCells, List.length_cons, ih]; omega
theorem chCells_one (cs : List ChV) : ∀ u ∈ chCells cs, u.oneCell' = true := by
  induction cs with
  | nil => intro u hu; cases hu
  | cons c r ih =>
    intro u hu
    simp only [chCells, List.mem_cons] at hu
    rcases hu with rfl | rfl | rfl | hu
    · rfl
    · rfl
    · rfl
    · exact ih u hu
theorem chCells_of : ∀ (cs : List ChV) (j : Nat) (u : Value), (chCells cs)[j]? = some u → ∃ (i : Nat) (c : ChV), cs[i]? = some c ∧ (j = i * 3 ∧ u = .string c.x.scheme ∨ j = i * 3 + 1 ∧ u = .string c.x.token ∨ j = i * 3 + 2 ∧ u = .slice c.a c.len c.cap)
  | [], j, u, h => by simp [chCells] at h
  | c :: r, 0, u, h => ⟨0, c, rfl, .inl ⟨rfl, by simpa [chCells] using h.symm⟩⟩
  | c :: r, 1, u, h => ⟨0, c, rfl, .inr (.inl ⟨rfl, by simpa [chCells] using h.symm⟩)⟩
  | c :: r, 2, u, h => ⟨0, c, rfl, .inr (.inr ⟨rfl, by simpa [chCells] using h.symm⟩)⟩
  | c :: r, j + 3, u, h => by
    obtain ⟨i, d, h1, h2⟩ := chCells_of r j u (by simpa [chCells] using h)
    refine ⟨i + 1, d, by simpa using h1, ?_⟩
    rcases h2 with ⟨e, h2⟩ | ⟨e, h2⟩ | ⟨e, h2⟩
    · exact .inl ⟨by omega, h2⟩
    · exact .inr (.inl ⟨by omega, h2⟩)
    · exact .inr (.inr ⟨by omega, h2⟩)
theorem chals_cells {w : World} {a0 : Option Addr} {len b off : Nat} {cs : List ChV} (h : Chals w a0 len b off cs) (j : Nat) (u : Value) (hu : (chCells cs)[j]? = some u) : w.cell? ((⟨b, off, none⟩ : Addr).add j) = some u := by
  obtain ⟨i, c, h1, h2⟩ := chCells_of cs j u hu
  rw [WideShapes.add_plain]
  rcases h2 with ⟨rfl, rfl⟩ | ⟨rfl, rfl⟩ | ⟨rfl, rfl⟩
  · exact h.one i c h1
  · rw [← Nat.add_assoc]; exact h.two i c h1
  · rw [← Nat.add_assoc]; exact h.three i c h1
theorem wp_clonec {ops : Array Oper} {rest : List Oper} {o : Oper} {a : Act} {Q : Exit → Act → World → Prop} (hgd : o.guard = none) (s x : Operand)
    (ho : o.op = .call { callee := .builtin .append, args := #[s, x], argTypes := #[23, 23] })
    (w : World) (hs : a.eval s = .slice (some ⟨w.heap.size, 0, none⟩) 0 0) (cs : List ChV) (b off len cap : Nat) (hx : a.eval x = .slice (some ⟨b, off, none⟩) len cap) (hX : Chals w (some ⟨b, off, none⟩) len b off cs) (h0 : 0 < len) (hl : len ≤ 1000)
    (h : ∀ g cap w', w'.ownsRow w.heap.size 33 3 (.slice (some ⟨g, 0, none⟩) len cap) len (chCells cs) → Below w.heap.size w w' → wpList Tryd.prog ops Q rest (a.put o.dst (.slice (some ⟨g, 0, none⟩) len cap)) w') :
    wpList Tryd.prog ops Q (o :: rest) a (w.alloc (.cells #[] 33)) := by
  have hb1 : Below w.heap.size w (w.alloc (.cells #[] 33)) := (Below.refl _ _).alloc (Nat.le_refl _) _
  obtain ⟨i0, hi0, hz0, hz1, hz2⟩ := info_parts infoC
  have hlen := hX.len_eq
  refine wpList_append_lies _ hgd s x 23 ho w.heap.size 33 i0 (.agg #[.string ⟨#[]⟩, .string ⟨#[]⟩, .slice none 0 0]) 3 56 Tryd.underlying23 hi0 hz0 hz1 hz2 rfl (by omega) _ 0 [] hs ⟨rfl, .inr ⟨w.heap.size, 0, #[], rfl, Nat.le_refl _, heap_alloc_new w _, Nat.le_refl _, Nat.zero_le _, rfl, rfl⟩⟩ ⟨b, off, none⟩ len cap (chCells cs) hx (by rw [chCells_len, hlen])
    (chals_cells (hX.below hb1)) (chCells_one cs) h0 (by unfold maxLen; omega) (by omega) (by simp) _ rfl ?_
  intro g cap' w' hown1 hgrow _ hlt
  rw [Nat.zero_add, List.nil_append] at hown1
  rw [Nat.zero_add]
  exact h g cap' w' hown1 (hb1.grown hgrow hb1.size (fun i hi => by have hi' : w.heap.size = i := by simpa [Value.ownBlock] using hi
                                                                    omega))
theorem sliceNil (p : Addr) (n c : Nat) (w : World) : (binOp .eql 23 (.slice (some p) n c) (.slice none 0 0)).run Tryd.prog w = .ok (.bool false) w := by kernel_rfl
set_option maxRecDepth 100000 in
set_option maxHeartbeats 2000000 in
theorem cloneC_any (cs : List ChV) (a0 : Option Addr) (len cap b off : Nat) (hlen : len ≤ 1000) (w : World) (hx : Chals w a0 len b off cs) (h0 : 0 < len) :
    Calls Tryd.prog 13 #[.slice a0 len cap] w fun e w' => (∃ g cap', e = .returned (.slice (some ⟨g, 0, none⟩) len cap') ∧ w'.ownsRow w.heap.size 33 3 (.slice (some ⟨g, 0, none⟩) len cap') len (chCells cs)) ∧ Below w.heap.size w w' := by
  obtain ⟨ha0, hbl⟩ := hx.lies h0
  subst ha0
  have HX : Hid (Chals w (some ⟨b, off, none⟩) len b off cs) := hx
  clear hx
  have hnil := sliceNil
  go_enter Tryd.func13, Tryd.ntmps13
  go_wp2_with (at_builtin; refine wp_clonec rfl _ _ rfl w rfl cs b off len cap rfl HX.out h0 hlen ?_; intro g cap' w' hown hb)
  go_ret
  exact ⟨⟨_, _, rfl, hown⟩, hb⟩
theorem sliceNone (n c : Nat) (w : World) : (binOp .eql 23 (.slice none n c) (.slice none 0 0)).run Tryd.prog w = .ok (.bool true) w := by kernel_rfl
end Go.Proofs.YteldgpkkgnfiaabDoor
