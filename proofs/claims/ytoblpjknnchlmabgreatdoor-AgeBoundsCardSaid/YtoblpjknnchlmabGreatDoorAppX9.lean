/- Passes that differ by method and header alone, in a row that a call owns; one more. -/
import Derived.Test.YtoblpjknnchlmabGreatDoorRk
import Derived.Test.YtoblpjknnchlmabGreatDoorCtp9
namespace Go.Proofs.YtoblpjknnchlmabGreatDoor
open Go.RowKit

theorem infoX : (Tryz.prog.info? 50).map (fun i => (i.zero, i.size, i.bytes)) = some (some (.agg #[.bool false, .string ⟨#[]⟩, .int .i64 0, .bool false, .string ⟨#[]⟩, .int .i64 0, .string ⟨#[]⟩, .string ⟨#[]⟩, .bool false, .string ⟨#[]⟩, .string ⟨#[]⟩, .int .i64 0]), 12, 144) := by kernel_rfl
def cellsX (p : PsV) (l : List (ByteArray × ByteArray)) : List (List Value) := l.map fun x => (p.of x).vals
/-- A value of type []api.Pass that owns these, among the blocks from B on. -/
def OwnX (p : PsV) (w : World) (B : Nat) (v : Value) (l : List (ByteArray × ByteArray)) : Prop := OwnK 12 50 w B v (cellsX p l)
theorem vals_len (v : PsV) : v.vals.length = 12 := rfl
theorem vals_one (v : PsV) : ∀ u ∈ v.vals, u.oneCell' = true := by
  intro u hu
  simp only [PsV.vals, List.mem_cons, List.not_mem_nil, or_false] at hu
  rcases hu with h | h | h | h | h | h | h | h | h | h | h | h <;> subst h <;> rfl
theorem ownX_nil (p : PsV) (w : World) (B : Nat) : OwnX p w B (.slice none 0 0) [] := ownK_nil 12 50 w B
theorem OwnX.pss {p : PsV} {w : World} {B : Nat} {v : Value} {l : List (ByteArray × ByteArray)} (h : OwnX p w B v l) : ∃ (a : Option Addr) (cap g : Nat), v = .slice a l.length cap ∧ Pss w a l.length g 0 (l.map p.of) := by
  have hl : (cellsX p l).length = l.length := by unfold cellsX; simp
  rcases OwnK.forms h with ⟨rfl, he⟩ | ⟨g, cap, rfl, hB, hg, hc, _⟩
  · have h0 : l = [] := by unfold cellsX at he; simpa using he
    subst h0
    exact ⟨none, 0, 0, rfl, pss_nil w⟩
  · refine ⟨_, cap, g, by rw [hl], by simp, fun _ => ⟨rfl, hg⟩, fun j v hj i u hi => ?_⟩
    obtain ⟨x, hx, rfl⟩ : ∃ x, l[j]? = some x ∧ p.of x = v := by
      rw [List.getElem?_map] at hj
      simpa using hj
    have hj' : (cellsX p l)[j]? = some (p.of x).vals := by unfold cellsX; rw [List.getElem?_map, hx]; rfl
    rw [Nat.zero_add]
    exact OwnK.cell (show OwnK 12 50 w B (.slice (some ⟨g, 0, none⟩) (cellsX p l).length cap) (cellsX p l) from h) hj' hi
theorem OwnX.below {p : PsV} {w w' : World} {B : Nat} {v : Value} {l : List (ByteArray × ByteArray)} (h : OwnX p w B v l) (hb : Below w.heap.size w w') : OwnX p w' B v l := OwnK.below h hb
theorem OwnX.kept {p : PsV} {w w' : World} {B : Nat} {row : Option Nat} {v : Value} {l : List (ByteArray × ByteArray)} (h : OwnX p w B v l) (hg : w.grownBy w' row) (hne : v.ownBlock = none ∨ v.ownBlock ≠ row) : OwnX p w' B v l := OwnK.kept h hg hne
theorem wp_appX {ops : Array Oper} {rest : List Oper} {o : Oper} {a : Act} {Q : Exit → Act → World → Prop} (hgd : o.guard = none) (s x : Operand)
    (ho : o.op = .call { callee := .builtin .append, args := #[s, x], argTypes := #[46, 46] })
    (p : PsV) (B : Nat) (wr : World) (v : Value) (l : List (ByteArray × ByteArray)) (n : Nat) (hs : a.eval s = v) (hown : OwnX p wr B v l) (hn : l.length = n) (hl : n ≤ 1000) (hB : B ≤ wr.heap.size)
    (y : ByteArray × ByteArray) (hx : a.eval x = .slice (some ⟨wr.heap.size, 0, none⟩) 1 1)
    (h : ∀ g cap w', OwnX p w' B (.slice (some ⟨g, 0, none⟩) (n + 1) cap) (l ++ [y]) → (wr.alloc (.cells #[.bool p.fs, .string p.fh, .int .i64 p.fp, .bool p.us, .string p.uh, .int .i64 p.up, .string p.pa, .string p.qu, .bool p.wi, .string y.1, .string y.2, .int .i64 p.un] 50)).grownBy w' v.ownBlock → g < w'.heap.size → B ≤ g → wpList Tryz.prog ops Q rest (a.put o.dst (.slice (some ⟨g, 0, none⟩) (n + 1) cap)) w') :
    wpList Tryz.prog ops Q (o :: rest) a (wr.alloc (.cells #[.bool p.fs, .string p.fh, .int .i64 p.fp, .bool p.us, .string p.uh, .int .i64 p.up, .string p.pa, .string p.qu, .bool p.wi, .string y.1, .string y.2, .int .i64 p.un] 50)) := by
  subst hn
  obtain ⟨i0, hi0, hz0, hz1, hz2⟩ := info_parts infoX
  have hlc : (cellsX p l).length = l.length := by unfold cellsX; simp
  refine wpList_append_lies _ hgd s x 46 ho B 50 i0 (.agg #[.bool false, .string ⟨#[]⟩, .int .i64 0, .bool false, .string ⟨#[]⟩, .int .i64 0, .string ⟨#[]⟩, .string ⟨#[]⟩, .bool false, .string ⟨#[]⟩, .string ⟨#[]⟩, .int .i64 0]) 12 144 Tryz.underlying46 hi0 hz0 hz1 hz2 rfl (by omega) v (cellsX p l).length _ hs (World.ownsRow.alloc hown.row _) ⟨wr.heap.size, 0, none⟩ 1 1 (p.of y).vals hx rfl
    (World.news_of_block (cs := #[.bool p.fs, .string p.fh, .int .i64 p.fp, .bool p.us, .string p.uh, .int .i64 p.up, .string p.pa, .string p.qu, .bool p.wi, .string y.1, .string y.2, .int .i64 p.un]) (t := 50) (fr := (0, 0)) (heap_alloc_new wr _)) (vals_one _) (by omega) (by rw [hlc]; unfold maxLen; omega) (by omega) (by simp; omega) _ rfl ?_
  intro g cap w' hown1 hgrow _ hlt
  have hnew : OwnX p w' B (.slice (some ⟨g, 0, none⟩) (l.length + 1) cap) (l ++ [y]) := by
    have hc : cellsX p (l ++ [y]) = cellsX p l ++ [(p.of y).vals] := by unfold cellsX; simp
    refine ⟨?_, ?_, ?_⟩
    · rw [hc, List.length_append, List.flatten_append, hlc]
      rw [hlc] at hown1
      simpa using hown1
    · intro z hz
      rw [hc] at hz
      rcases List.mem_append.1 hz with hz | hz
      · exact hown.len z hz
      · rw [List.mem_singleton.1 hz]; rfl
    · intro z hz
      rw [hc] at hz
      rcases List.mem_append.1 hz with hz | hz
      · exact hown.one z hz
      · rw [List.mem_singleton.1 hz]; exact vals_one _
  rw [hlc]
  exact h g cap w' hnew hgrow hlt (OwnK.lt hnew g rfl).1
end Go.Proofs.YtoblpjknnchlmabGreatDoor
