/- Which headers must be asked for, by the program. -/
import Derived.Test.YtoblpjknnchlmabGreatDoorPln8
import Derived.Test.YtoblpjknnchlmabGreatDoorSrt8
import Derived.Test.YtoblpjknnchlmabGreatDoorPrmA
import Derived.Test.YtoblpjknnchlmabGreatDoorSrs
namespace Go.Proofs.YtoblpjknnchlmabGreatDoor
open Go.RowKit

/-- Two rows of texts, each in blocks of its own. -/
structure Two (w : World) (B : Nat) (u v : Value) (xs ys : List ByteArray) : Prop where
  one : OwnS w B u xs
  two : OwnS w B v ys
  apart : ∀ k, u.ownBlock = some k → v.ownBlock ≠ some k
theorem Two.swap {w : World} {B : Nat} {u v : Value} {xs ys : List ByteArray} (h : Two w B u v xs ys) : Two w B v u ys xs := ⟨h.two, h.one, fun k h1 h2 => h.apart k h2 h1⟩
theorem Two.below {w w' : World} {B : Nat} {u v : Value} {xs ys : List ByteArray} (h : Two w B u v xs ys) (hb : Below w.heap.size w w') : Two w' B u v xs ys := ⟨h.one.below hb, h.two.below hb, h.apart⟩
theorem OwnS.other {w w' : World} {B : Nat} {u v : Value} {xs : List ByteArray} (h : OwnS w B v xs) (hg : w.grownBy w' u.ownBlock) (ha : ∀ k, u.ownBlock = some k → v.ownBlock ≠ some k) : OwnS w' B v xs := by
  rcases hu : u.ownBlock with _ | k
  · rw [hu] at hg
    refine World.ownsRow.kept h hg ?_
    rcases v.ownBlock with _ | j
    · exact .inl rfl
    · exact .inr (by simp)
  · rw [hu] at hg
    exact World.ownsRow.kept h hg (.inr (ha k hu))
/-- One text more at the first of two rows. -/
theorem wp_app2 {ops : Array Oper} {rest : List Oper} {o : Oper} {a : Act} {Q : Exit → Act → World → Prop} (hgd : o.guard = none) (s x : Operand)
    (ho : o.op = .call { callee := .builtin .append, args := #[s, x], argTypes := #[57, 57] })
    (B : Nat) (wr : World) (u v : Value) (xs ys : List ByteArray) (n : Nat) (hs : a.eval s = u) (hown : Two wr B u v xs ys) (hn : xs.length = n) (hl : n ≤ 100000) (hB : B ≤ wr.heap.size)
    (t : ByteArray) (hx : a.eval x = .slice (some ⟨wr.heap.size, 0, none⟩) 1 1)
    (h : ∀ g cap w', Two w' B (.slice (some ⟨g, 0, none⟩) (n + 1) cap) v (xs ++ [t]) ys → Below B wr w' → (∀ j, j < wr.heap.size → u.ownBlock ≠ some j → w'.heap[j]? = wr.heap[j]?) → wpList Tryz.prog ops Q rest (a.put o.dst (.slice (some ⟨g, 0, none⟩) (n + 1) cap)) w') :
    wpList Tryz.prog ops Q (o :: rest) a (wr.alloc (.cells #[.string t] 9)) := by
  subst hn
  obtain ⟨i0, hi0, hz0, hz1, hz2⟩ := info_parts info9
  refine wpList_append_lies _ hgd s x 57 ho B 9 i0 (.string ⟨#[]⟩) 1 16 Tryz.underlying57 hi0 hz0 hz1 hz2 rfl (by omega) u xs.length _ hs (World.ownsRow.alloc hown.one _) ⟨wr.heap.size, 0, none⟩ 1 1 [.string t] hx rfl
    (World.news_of_block (cs := #[.string t]) (t := 9) (fr := (0, 0)) (heap_alloc_new wr _)) (by simp [Value.oneCell']) (by omega) (by unfold maxLen; omega) (by omega) (by simp; omega) _ rfl ?_
  intro g cap w' hown1 hgrow hgw hlt
  have hb0 : Below wr.heap.size wr (wr.alloc (.cells #[.string t] 9)) := (Below.refl _ _).alloc (Nat.le_refl _) _
  refine h g cap w' ⟨?_, ?_, ?_⟩ ?_ ?_
  · unfold OwnS
    rw [List.length_append, List.map_append]
    exact hown1
  · exact (hown.two.below hb0).other hgrow hown.apart
  · intro k hk hvk
    have hkg : g = k := by simpa [Value.ownBlock] using hk
    subst hkg
    rcases hgw with e | e
    · exact hown.apart g e hvk
    · have := (hown.two.lt g hvk).2
      simp at e
      omega
  · exact ((Below.refl B wr).alloc hB _).grown hgrow (by simp; omega) (fun k hk => (hown.one.lt k hk).1)
  · intro j hj hne
    exact (hgrow.block j (by simp; omega) (fun e => hne e.symm)).trans (hb0.block j hj)
/-- All texts of the second row behind those of the first. -/
theorem wp_appAll {ops : Array Oper} {rest : List Oper} {o : Oper} {a : Act} {Q : Exit → Act → World → Prop} (hgd : o.guard = none) (s x : Operand)
    (ho : o.op = .call { callee := .builtin .append, args := #[s, x], argTypes := #[57, 57] })
    (B : Nat) (wr : World) (u v : Value) (xs ys : List ByteArray) (n m : Nat) (hs : a.eval s = u) (hx : a.eval x = v) (hown : Two wr B u v xs ys) (hn : xs.length = n) (hm : ys.length = m) (h0 : 0 < m) (hl : n + m ≤ 100000) (hB : B ≤ wr.heap.size)
    (h : ∀ g cap w', OwnS w' B (.slice (some ⟨g, 0, none⟩) (n + m) cap) (xs ++ ys) → Below B wr w' → wpList Tryz.prog ops Q rest (a.put o.dst (.slice (some ⟨g, 0, none⟩) (n + m) cap)) w') :
    wpList Tryz.prog ops Q (o :: rest) a wr := by
  subst hn hm
  obtain ⟨i0, hi0, hz0, hz1, hz2⟩ := info_parts info9
  rcases hown.two.2 with ⟨_, e⟩ | ⟨gv, cv, cur, rfl, hbv, hhv, h1, h2, h3, h4⟩
  · omega
  · refine wpList_append_lies _ hgd s x 57 ho B 9 i0 (.string ⟨#[]⟩) 1 16 Tryz.underlying57 hi0 hz0 hz1 hz2 rfl (by omega) u xs.length _ hs hown.one ⟨gv, 0, none⟩ ys.length cv (ys.map Value.string) hx (by simp)
      (fun j q hj => World.ownsRow.cells hown.two (g := gv) rfl j q hj) (fun q hq => by obtain ⟨b, _, rfl⟩ := List.mem_map.1 hq; rfl) h0 (by unfold maxLen; omega) (by omega) hB _ rfl ?_
    intro g cap w' hown1 hgrow hgw hlt
    refine h g cap w' ?_ ((Below.refl B wr).grown hgrow hB (fun k hk => (hown.one.lt k hk).1))
    unfold OwnS
    rw [List.length_append, List.map_append]
    exact hown1
def lowN (p : Par) : ByteArray := bs (p.1.data.toList.map low)
def plain8 (p : Par) : Bool := plainL p.1.data.toList p.2.data.toList
/-- The names of those that aren't plain, and of those that are, in their order; how many bytes of values the latter have. -/
def notPlain (ps : List Par) : List ByteArray := (ps.filter fun p => !plain8 p).map lowN
def arePlain (ps : List Par) : List ByteArray := (ps.filter fun p => plain8 p).map lowN
def together (ps : List Par) : Nat := ((ps.filter fun p => plain8 p).map fun p => p.2.size).sum
def askedNames (ps : List Par) : List ByteArray := if 1024 < together ps then notPlain ps ++ arePlain ps else notPlain ps
def askedL (ps : List Par) : List ByteArray := (Lib.compact (sortL (tx (askedNames ps)))).map bs
theorem take_next (ps : List Par) (k : Nat) (p : Par) (h : ps[k]? = some p) : ps.take (k + 1) = ps.take k ++ [p] := by
  obtain ⟨hk, e⟩ := List.getElem?_eq_some_iff.1 h
  rw [List.take_succ_eq_append_getElem hk, e]
theorem notPlain_yes (ps : List Par) (k : Nat) (p : Par) (h : ps[k]? = some p) (hp : plain8 p = true) : notPlain (ps.take (k + 1)) = notPlain (ps.take k) ∧ arePlain (ps.take (k + 1)) = arePlain (ps.take k) ++ [lowN p] ∧ together (ps.take (k + 1)) = together (ps.take k) + p.2.size := by
  unfold notPlain arePlain together
  rw [take_next ps k p h]
  simp [List.filter_append, hp]
theorem notPlain_no (ps : List Par) (k : Nat) (p : Par) (h : ps[k]? = some p) (hp : plain8 p = false) : notPlain (ps.take (k + 1)) = notPlain (ps.take k) ++ [lowN p] ∧ arePlain (ps.take (k + 1)) = arePlain (ps.take k) ∧ together (ps.take (k + 1)) = together (ps.take k) := by
  unfold notPlain arePlain together
  rw [take_next ps k p h]
  simp [List.filter_append, hp]
theorem sum_le (l : List Nat) (m : Nat) (h : ∀ x ∈ l, x ≤ m) : l.sum ≤ l.length * m := by
  induction l with
  | nil => simp
  | cons a t ih =>
    have h1 := h a (by simp)
    have h2 := ih (fun x hx => h x (by simp [hx]))
    rw [List.sum_cons, List.length_cons, Nat.succ_mul]
    omega
theorem plain_short (p : Par) (h : plain8 p = true) : p.2.size ≤ 128 := by
  unfold plain8 plainL at h
  rw [Bool.and_eq_true] at h
  have := of_decide_eq_true h.1
  have e : p.2.data.toList.length = p.2.size := Array.length_toList
  omega
theorem together_le (ps : List Par) : together ps ≤ ps.length * 128 := by
  unfold together
  refine Nat.le_trans (sum_le _ 128 ?_) (Nat.mul_le_mul_right _ ?_)
  · intro x hx
    obtain ⟨p, hp, rfl⟩ := List.mem_map.1 hx
    exact plain_short p (by simpa using (List.mem_filter.1 hp).2)
  · rw [List.length_map]; exact List.length_filter_le _ _
theorem lens_le (ps : List Par) : (notPlain ps).length + (arePlain ps).length = ps.length := by
  unfold notPlain arePlain
  rw [List.length_map, List.length_map]
  induction ps with
  | nil => rfl
  | cons p r ih =>
    cases h : plain8 p
    · rw [List.filter_cons_of_pos (by simp [h]), List.filter_cons_of_neg (by simp [h])]
      simp only [List.length_cons]
      omega
    · rw [List.filter_cons_of_neg (by simp [h]), List.filter_cons_of_pos (by simp [h])]
      simp only [List.length_cons]
      omega
theorem together_none (ps : List Par) (h : (arePlain ps).length = 0) : together ps = 0 := by
  unfold arePlain at h
  unfold together
  rw [List.length_map] at h
  rw [List.eq_nil_of_length_eq_zero h]
  rfl
end Go.Proofs.YtoblpjknnchlmabGreatDoor
