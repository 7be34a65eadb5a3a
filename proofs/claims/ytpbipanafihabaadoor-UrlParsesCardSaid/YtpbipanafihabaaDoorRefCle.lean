/- The document's Clean. -/
import Derived.Test.YtpbipanafihabaaDoorSplP
import Derived.Test.YtpbipanafihabaaDoorShJoin
import Derived.Test.YtpbipanafihabaaDoorCle
import Derived.Laws.OwnMore
import Derived.OneCell
import Derived.Deep.AppendLies
namespace Go.Proofs.YtpbipanafihabaaDoor
open Go.RowKit Go.Shelf

def encS (l : List ByteArray) : List Value := l.map Value.string
theorem encS_length (l : List ByteArray) : (encS l).length = l.length := by simp [encS]
theorem info9 : (Tryd.prog.info? 9).map (fun i => (i.zero, i.size, i.bytes)) = some (some (.string ByteArray.empty), 1, 16) := by kernel_rfl
/-- The parts that are gathered, and those that are gone through. -/
structure CR (N Bp : Nat) (w0 : World) (ps : List ByteArray) (W : World) (g n cap : Nat) (l : List ByteArray) : Prop where
  len : l.length = n
  row : W.ownsRow N 9 1 (.slice (some ⟨g, 0, none⟩) n cap) n (encS l)
  ne : g ≠ Bp
  glt : g < W.heap.size
  lo : N ≤ g
  lt : Bp < W.heap.size
  cel : ∀ k, (hk : k < ps.length) → W.cell? ⟨Bp, k, none⟩ = some (.string ps[k])
  bel : Below N w0 W
  ns : N ≤ W.heap.size
theorem CR.push {N Bp : Nat} {w0 : World} {ps : List ByteArray} {W w1 : World} {g n cap g1 cap1 : Nat} {l : List ByteArray} {p : ByteArray} {o : Obj} (h : CR N Bp w0 ps W g n cap l)
    (hrow : w1.ownsRow N 9 1 (.slice (some ⟨g1, 0, none⟩) (n + 1) cap1) (n + 1) (encS l ++ [.string p])) (hg : (W.alloc o).grownBy w1 (some g)) (hat : some g = some g1 ∨ g1 = (W.alloc o).heap.size) (hlt : g1 < w1.heap.size) : CR N Bp w0 ps w1 g1 (n + 1) cap1 (l ++ [p]) := by
  have hsz : (W.alloc o).heap.size = W.heap.size + 1 := World.size_alloc ..
  have hb : Below N w0 (W.alloc o) := h.bel.alloc h.ns o
  have h1 := h.lt
  have h2 := h.lo
  have h3 := h.ns
  have h4 := hg.size
  refine ⟨by rw [List.length_append, h.len]; rfl, ?_, ?_, hlt, ?_, by omega, fun k hk => ?_, hb.grown hg (by omega) (fun k e => by injection e with e; omega), by omega⟩
  · have e : encS (l ++ [p]) = encS l ++ [.string p] := by simp [encS]
    rw [e]
    exact hrow
  · rcases hat with e | e
    · injection e with e
      rw [← e]
      exact h.ne
    · omega
  · rcases hat with e | e
    · injection e with e
      omega
    · omega
  · have e1 : w1.cell? ⟨Bp, k, none⟩ = (W.alloc o).cell? ⟨Bp, k, none⟩ := World.cell?_of_block (hg.block Bp (by omega) (fun e => h.ne (by injection e with e; exact e.symm)))
    rw [e1]
    exact cell_alloc o (h.cel k hk)
theorem CR.cut {N Bp : Nat} {w0 : World} {ps : List ByteArray} {W : World} {g n cap : Nat} {l : List ByteArray} (h : CR N Bp w0 ps W g n cap l) : CR N Bp w0 ps W g (n - 1) cap l.dropLast := by
  refine ⟨by rw [List.length_dropLast, h.len], ?_, h.ne, h.glt, h.lo, h.lt, h.cel, h.bel, h.ns⟩
  have := ownsRow_take h.row (n - 1) (by omega)
  have e : encS l.dropLast = (encS l).take (n - 1) := by
    unfold encS
    rw [List.dropLast_eq_take, h.len, List.map_take]
  rw [e]
  exact this
theorem wpList_append_S {ops : Array Oper} {rest : List Oper} {o : Oper} {a : Act} {Q : Exit → Act → World → Prop} (W : World) (hgd : o.guard = none) (s x : Operand)
    (ho : o.op = .call { callee := .builtin .append, args := #[s, x], argTypes := #[54, 54] })
    {N Bp : Nat} {w0 : World} {ps : List ByteArray} {g n cap : Nat} {l : List ByteArray} (p : ByteArray) (h : CR N Bp w0 ps W g n cap l) (hs : a.eval s = .slice (some ⟨g, 0, none⟩) n cap)
    (hx : a.eval x = .slice (some ⟨W.heap.size, 0, none⟩) 1 1) (hn : n ≤ 5000)
    (hK : ∀ g1 cap1 w1, CR N Bp w0 ps w1 g1 (n + 1) cap1 (l ++ [p]) → wpList Tryd.prog ops Q rest (a.put o.dst (.slice (some ⟨g1, 0, none⟩) (n + 1) cap1)) w1) :
    wpList Tryd.prog ops Q (o :: rest) a (W.alloc (.cells #[.string p] 9)) := by
  obtain ⟨i0, hi0, hz0, hz1, hz2⟩ := info_parts info9
  have h3 := h.ns
  refine wpList_append_lies _ hgd s x 54 ho N 9 i0 (.string ByteArray.empty) 1 16 Tryd.underlying54 hi0 hz0 hz1 hz2 rfl (by omega) (.slice (some ⟨g, 0, none⟩) n cap) n (encS l) hs (h.row.alloc _) ⟨W.heap.size, 0, none⟩ 1 1 [.string p] hx rfl (fun j u hj => cell_one_new W (.string p) 9 j u hj) ?_ (by omega) (by unfold maxLen; omega) (by omega) (by simp; omega) _ rfl ?_
  · intro u hu
    rw [List.mem_singleton] at hu
    subst hu
    rfl
  · intro g1 cap1 w1 h1 h2 h4 h5
    exact hK g1 cap1 w1 (h.push h1 h2 h4 h5)
theorem join_joinL : ∀ ps : List (List UInt8), ps ≠ [] → Lib.join ps [47] = joinL 47 ps
  | [], h => absurd rfl h
  | [p], _ => by simp [Lib.join, List.intercalate, joinL]
  | p :: q :: r, _ => by
    have ih := join_joinL (q :: r) (by simp)
    have e : joinL 47 (p :: q :: r) = p ++ 47 :: joinL 47 (q :: r) := by rw [joinL]; simp
    rw [e, ← ih]
    simp [Lib.join, List.intercalate]
end Go.Proofs.YtpbipanafihabaaDoor
