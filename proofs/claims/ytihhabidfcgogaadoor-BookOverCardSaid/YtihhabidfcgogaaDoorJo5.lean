/- Texts of one claim, joined: each begins with what it proves. -/
import Derived.Test.YtihhabidfcgogaaDoorJo4
import Derived.Test.YtihhabidfcgogaaDoorJo1
import Derived.Test.YtihhabidfcgogaaDoorJo3
import Derived.Test.YtihhabidfcgogaaDoorJo2
import Derived.Sort.OwnSorted
import Derived.Lib.OwnBridge
import Derived.Deep.Draws
import Derived.Deep.LoopGhost
import Derived.Deep.QuietTactic
import Derived.BigQuiet
import Derived.Deep.Cut
import Derived.Deep.CutRange
import Derived.Deep.DeepCutAuto
import Derived.RangeFuncNested
import Derived.RangeFuncBound
import Derived.RangeFuncCalls
import Derived.RangeFuncLeaves
import Derived.RangeFuncWrites
import Derived.RangeFuncBox
import Derived.OwnWalkIn
import Derived.TacticsInMore
import Derived.LoopNIn
import Derived.LoopIn
import Derived.BigFrameIn
import Derived.RegionTactic
import Derived.OrdersIn
/- Texts sorted, each once, by the library, at rows that a call owns. -/
namespace Go.Proofs.YtihhabidfcgogaaDoor
open Go.RowKit Go.Shelf Go.Sort

def tx (xs : List ByteArray) : List (List UInt8) := xs.map (·.data.toList)
def sortL (ss : List (List UInt8)) : List (List UInt8) := ss.mergeSort fun x y => decide (x ≤ y)
theorem tx_bs (ss : List (List UInt8)) : tx (ss.map bs) = ss := by
  unfold tx
  rw [List.map_map]
  conv => rhs; rw [← List.map_id ss]
  apply List.map_congr_left
  intro x _
  exact bs_data x
theorem bs_tx (xs : List ByteArray) : (tx xs).map bs = xs := by
  unfold tx
  rw [List.map_map]
  conv => rhs; rw [← List.map_id xs]
  apply List.map_congr_left
  intro x _
  exact bs_self x
theorem enc_bs (ss : List (List UInt8)) : ss.map Proofs.encStr = (ss.map bs).map Value.string := by
  have := Lib.map_encStr (ss.map bs)
  rw [show (ss.map bs).map (·.data.toList) = ss from tx_bs ss] at this
  exact this
theorem sortL_len (ss : List (List UInt8)) : (sortL ss).length = ss.length := List.length_mergeSort ss
theorem sortL_perm (ss : List (List UInt8)) : (sortL ss).Perm ss := List.mergeSort_perm ss _
theorem le_total' (a b : List UInt8) : (decide (a ≤ b) || decide (b ≤ a)) = true := by
  rcases List.le_total a b with h | h
  · simp [h]
  · simp [h]
theorem sortL_sorted (ss : List (List UInt8)) : (sortL ss).Pairwise fun a b => a ≤ b := by
  have h := List.pairwise_mergeSort (le := fun x y : List UInt8 => decide (x ≤ y)) (fun a b c h1 h2 => decide_eq_true (List.le_trans (of_decide_eq_true h1) (of_decide_eq_true h2))) le_total' ss
  exact h.imp fun h => of_decide_eq_true h
theorem sortL_of_perm {a b : List (List UInt8)} (h : a.Perm b) : sortL a = sortL b :=
  List.Perm.eq_of_pairwise (le := fun a b => a ≤ b) (fun _ _ _ _ h1 h2 => List.le_antisymm h1 h2) (sortL_sorted a) (sortL_sorted b) ((sortL_perm a).trans (h.trans (sortL_perm b).symm))
theorem OwnS.enc {w : World} {B : Nat} {v : Value} {xs : List ByteArray} (h : OwnS w B v xs) : w.ownsRow B 9 1 v xs.length ((tx xs).map Proofs.encStr) := by
  rw [enc_bs, bs_tx]
  exact h
set_option maxHeartbeats 1000000 in
theorem sort_own (w : World) (B : Nat) (v : Value) (xs : List ByteArray) (h : OwnS w B v xs) (hl : xs.length ≤ 1000000) :
    Calls Tryd.prog 42 #[v] w fun e w' => e = .returned (.tuple #[]) ∧ OwnS w' B v ((sortL (tx xs)).map bs) ∧ w.grownBy w' v.ownBlock := by
  have henc := h.enc
  have hlen : (tx xs).length = xs.length := by unfold tx; simp
  rcases henc.2 with ⟨rfl, h0⟩ | ⟨g, cap, cur, rfl, hbase, hb, h1, h2, h3, h4⟩
  · obtain rfl : xs = [] := List.eq_nil_of_length_eq_zero h0
    refine (Any.slices_Sort_string_none lays190 none 0 w).mono ?_
    rintro e w' ⟨rfl, rfl⟩
    refine ⟨rfl, ?_, ⟨rfl, rfl, rfl, Nat.le_refl _, fun _ _ _ => rfl⟩⟩
    have : sortL (tx []) = [] := by unfold tx sortL; simp
    rw [this]
    exact h
  · have hH : Holds Proofs.encStr w g 0 (tx xs).toArray := holds_of_block hb (by rw [hlen]; rw [Nat.mul_one] at h4; exact h4)
    have hs := Any.slices_Sort_string lays190 g 0 cap (tx xs) w hH (Array.getElem?_eq_some_iff.1 hb).1 (by rw [hlen]; omega)
    rw [hlen] at hs
    refine hs.mono ?_
    rintro e w' ⟨rfl, n, os, rfl⟩
    refine ⟨rfl, ?_, grownBy_sorted _⟩
    have ho := ownsRow_sorted (n := n) (os := os) (ss := tx xs) (ts := sortL (tx xs)) (sortL_len _) hbase hb (by rw [hlen]; exact h1) h2 h3
    rw [enc_bs, hlen] at ho
    unfold OwnS
    rw [List.length_map, sortL_len, hlen]
    exact ho
theorem compact_len (ss : List (List UInt8)) : (Lib.compact ss).length ≤ ss.length := Lib.compact_length_le ss
set_option maxHeartbeats 1000000 in
theorem compact_own (w : World) (B : Nat) (v : Value) (xs : List ByteArray) (h : OwnS w B v xs) (hl : xs.length ≤ 1000000) :
    Calls Tryd.prog 43 #[v] w fun e w' => (∃ v', e = .returned v' ∧ OwnS w' B v' ((Lib.compact (tx xs)).map bs)) ∧ w.grownBy w' v.ownBlock := by
  have henc := h.enc
  have hlen : (tx xs).length = xs.length := by unfold tx; simp
  rcases henc.2 with ⟨rfl, h0⟩ | ⟨g, cap, cur, rfl, hbase, hb, h1, h2, h3, h4⟩
  · obtain rfl : xs = [] := List.eq_nil_of_length_eq_zero h0
    refine (Any.slices_Compact_string_empty lays194 none 0 w).mono ?_
    rintro e w' ⟨rfl, rfl⟩
    refine ⟨⟨_, rfl, ?_⟩, ⟨rfl, rfl, rfl, Nat.le_refl _, fun _ _ _ => rfl⟩⟩
    have : Lib.compact (tx []) = [] := by unfold tx; rfl
    rw [this]
    exact h
  · have hH : Holds Proofs.encStr w g 0 (tx xs).toArray := holds_of_block hb (by rw [hlen]; rw [Nat.mul_one] at h4; exact h4)
    have hs := Any.slices_Compact_string lays194 g 0 cap (tx xs) w hH (by rw [hlen]; omega) (by rw [hlen]; exact h1)
    rw [hlen] at hs
    have hcl := compact_len (tx xs)
    refine hs.mono ?_
    rintro e w' ⟨rfl, q, rfl⟩
    refine ⟨⟨_, rfl, ?_⟩, ?_⟩
    · have ho := Lib.ownsRow_putRow (q := q) (k := (Lib.compact (tx xs)).length) (ys := Lib.compact (tx xs) ++ List.replicate (xs.length - (Lib.compact (tx xs)).length) []) henc (by simp; omega) (by omega)
      rw [List.take_left, enc_bs] at ho
      unfold OwnS
      rw [List.length_map]
      exact ho
    · refine ⟨rfl, rfl, rfl, by simp [putRow, mapBlock, Sort.ahead], fun k hk hne => ?_⟩
      have : g ≠ k := fun e => hne (by rw [e]; rfl)
      simp [putRow, mapBlock, Sort.ahead, Array.getElem?_modify, this]
end Go.Proofs.YtihhabidfcgogaaDoor

/- Rows of parameters that lie somewhere. -/
namespace Go.Proofs.YtihhabidfcgogaaDoor
open Go.RowKit

/-- A row of parameters that lies somewhere. -/
structure Pars (w : World) (a0 : Option Addr) (len b off : Nat) (ps : List Par) : Prop where
  len_eq : ps.length = len
  lies : 0 < len → a0 = some ⟨b, off, none⟩ ∧ b < w.heap.size
  one : ∀ (j : Nat) (p : Par), ps[j]? = some p → w.cell? ⟨b, off + j * 2, none⟩ = some (.string p.1)
  two : ∀ (j : Nat) (p : Par), ps[j]? = some p → w.cell? ⟨b, off + j * 2 + 1, none⟩ = some (.string p.2)
theorem Pars.grown {w w' : World} {a0 : Option Addr} {len b off : Nat} {ps : List Par} {row : Option Nat} (h : Pars w a0 len b off ps) (hg : w.grownBy w' row) (hr : 0 < len → some b ≠ row) : Pars w' a0 len b off ps := by
  have hpos : ∀ (j : Nat) (p : Par), ps[j]? = some p → 0 < len := fun j p hp => by
    have := (List.getElem?_eq_some_iff.1 hp).1
    have := h.len_eq
    omega
  exact ⟨h.len_eq, fun h0 => ⟨(h.lies h0).1, Nat.lt_of_lt_of_le (h.lies h0).2 hg.size⟩, fun j p hp => hg.cell (h.one j p hp) (hr (hpos j p hp)), fun j p hp => hg.cell (h.two j p hp) (hr (hpos j p hp))⟩
theorem Pars.below {w w' : World} {a0 : Option Addr} {len b off : Nat} {ps : List Par} (h : Pars w a0 len b off ps) (hb : Below w.heap.size w w') : Pars w' a0 len b off ps :=
  h.grown (row := none) ⟨hb.os, hb.tape, hb.output, hb.size, fun i hi _ => hb.block i hi⟩ (fun _ => by simp)
theorem Pars.belowB {w w' : World} {a0 : Option Addr} {len b off : Nat} {ps : List Par} {B : Nat} (h : Pars w a0 len b off ps) (hb : Below B w w') (hB : 0 < len → b < B) : Pars w' a0 len b off ps := by
  have hpos : ∀ (j : Nat) (p : Par), ps[j]? = some p → b < B := fun j p hp => by
    have := (List.getElem?_eq_some_iff.1 hp).1
    have := h.len_eq
    exact hB (by omega)
  exact ⟨h.len_eq, fun h0 => ⟨(h.lies h0).1, Nat.lt_of_lt_of_le (h.lies h0).2 hb.size⟩, fun j p hp => (hb.cell (p := ⟨b, off + j * 2, none⟩) (hpos j p hp)).trans (h.one j p hp), fun j p hp => (hb.cell (p := ⟨b, off + j * 2 + 1, none⟩) (hpos j p hp)).trans (h.two j p hp)⟩
end Go.Proofs.YtihhabidfcgogaaDoor

/- Rows of texts that lie somewhere. -/
namespace Go.Proofs.YtihhabidfcgogaaDoor
open Go.RowKit

/-- A row of texts that lies somewhere. -/
structure Strs (w : World) (a0 : Option Addr) (len b off : Nat) (xs : List ByteArray) : Prop where
  len_eq : xs.length = len
  lies : 0 < len → a0 = some ⟨b, off, none⟩ ∧ b < w.heap.size
  cells : ∀ (j : Nat) (x : ByteArray), xs[j]? = some x → w.cell? ⟨b, off + j, none⟩ = some (.string x)
theorem Strs.below {w w' : World} {a0 : Option Addr} {len b off : Nat} {xs : List ByteArray} (h : Strs w a0 len b off xs) (hb : Below w.heap.size w w') : Strs w' a0 len b off xs := by
  refine ⟨h.len_eq, fun h0 => ⟨(h.lies h0).1, Nat.lt_of_lt_of_le (h.lies h0).2 hb.size⟩, fun j x hx => ?_⟩
  have hj := (List.getElem?_eq_some_iff.1 hx).1
  have hl := h.len_eq
  rw [hb.cell (p := ⟨b, off + j, none⟩) (h.lies (by omega)).2]
  exact h.cells j x hx
theorem OwnS.strs {w : World} {B : Nat} {v : Value} {xs : List ByteArray} (h : OwnS w B v xs) : ∃ (a : Option Addr) (cap g : Nat), v = .slice a xs.length cap ∧ Strs w a xs.length g 0 xs := by
  rcases h.2 with ⟨rfl, h0⟩ | ⟨g, cap, cur, rfl, _, hh, _, _, _, ht⟩
  · refine ⟨none, 0, 0, by rw [h0], rfl, fun h1 => absurd h0 (by omega), fun j x hx => ?_⟩
    have := (List.getElem?_eq_some_iff.1 hx).1
    omega
  · refine ⟨_, cap, g, rfl, rfl, fun _ => ⟨rfl, ?_⟩, fun j x hx => ?_⟩
    · rcases Nat.lt_or_ge g w.heap.size with h1 | h1
      · exact h1
      · simp [Array.getElem?_eq_none h1] at hh
    · have hj := World.ownsRow.cells h (g := g) rfl j (.string x) (by rw [List.getElem?_map, hx]; rfl)
      rw [WideShapes.add_plain] at hj
      exact hj
theorem Strs.drewN {w : World} {a0 : Option Addr} {len b off : Nat} {xs : List ByteArray} (h : Strs w a0 len b off xs) (n : Nat) : Strs (w.drewN n) a0 len b off xs := ⟨h.len_eq, h.lies, h.cells⟩
end Go.Proofs.YtihhabidfcgogaaDoor

/- Which headers must be asked for, by the program. -/
namespace Go.Proofs.YtihhabidfcgogaaDoor
open Go.RowKit

/-- Two rows of texts, each in blocks of its own. -/
structure Two (w : World) (B : Nat) (u v : Value) (xs ys : List ByteArray) : Prop where
  one : OwnS w B u xs
  two : OwnS w B v ys
  apart : ∀ k, u.ownBlock = some k → v.ownBlock ≠ some k
theorem Two.swap {w : World} {B : Nat} {u v : Value} {xs ys : List ByteArray} (h : Two w B u v xs ys) : Two w B v u ys xs := ⟨h.two, h.one, fun k h1 h2 => h.apart k h2 h1⟩
theorem Two.below {w w' : World} {B : Nat} {u v : Value} {xs ys : List ByteArray} (h : Two w B u v xs ys) (hb : Below w.heap.size w w') : Two w' B u v xs ys := ⟨h.one.below hb, h.two.below hb, h.apart⟩
theorem OwnS.other {w w' : World} {B : Nat} {u v : Value} {xs : List ByteArray} (h : OwnS w B v xs) (hg : w.grownBy w' u.ownBlock) (ha : ∀ k, u.ownBlock = some k → v.ownBlock ≠ some k) : OwnS w' B v xs := by
  rcases hu : u.ownBlock with _ | k
  · rw [hu] at hg
    refine World.ownsRow.kept h hg ?_
    rcases v.ownBlock with _ | j
    · exact .inl rfl
    · exact .inr (by simp)
  · rw [hu] at hg
    exact World.ownsRow.kept h hg (.inr (ha k hu))
/-- One text more at the first of two rows. -/
theorem wp_app2 {ops : Array Oper} {rest : List Oper} {o : Oper} {a : Act} {Q : Exit → Act → World → Prop} (hgd : o.guard = none) (s x : Operand)
    (ho : o.op = .call { callee := .builtin .append, args := #[s, x], argTypes := #[50, 50] })
    (B : Nat) (wr : World) (u v : Value) (xs ys : List ByteArray) (n : Nat) (hs : a.eval s = u) (hown : Two wr B u v xs ys) (hn : xs.length = n) (hl : n ≤ 100000) (hB : B ≤ wr.heap.size)
    (t : ByteArray) (hx : a.eval x = .slice (some ⟨wr.heap.size, 0, none⟩) 1 1)
    (h : ∀ g cap w', Two w' B (.slice (some ⟨g, 0, none⟩) (n + 1) cap) v (xs ++ [t]) ys → Below B wr w' → (∀ j, j < wr.heap.size → u.ownBlock ≠ some j → w'.heap[j]? = wr.heap[j]?) → wpList Tryd.prog ops Q rest (a.put o.dst (.slice (some ⟨g, 0, none⟩) (n + 1) cap)) w') :
    wpList Tryd.prog ops Q (o :: rest) a (wr.alloc (.cells #[.string t] 9)) := by
  subst hn
  obtain ⟨i0, hi0, hz0, hz1, hz2⟩ := info_parts info9
  refine wpList_append_lies _ hgd s x 50 ho B 9 i0 (.string ⟨#[]⟩) 1 16 Tryd.underlying50 hi0 hz0 hz1 hz2 rfl (by omega) u xs.length _ hs (World.ownsRow.alloc hown.one _) ⟨wr.heap.size, 0, none⟩ 1 1 [.string t] hx rfl
    (World.news_of_block (cs := #[.string t]) (t := 9) (fr := (0, 0)) (heap_alloc_new wr _)) (by simp [Value.oneCell']) (by omega) (by unfold maxLen; omega) (by omega) (by simp; omega) _ rfl ?_
  intro g cap w' hown1 hgrow hgw hlt
  have hb0 : Below wr.heap.size wr (wr.alloc (.cells #[.string t] 9)) := (Below.refl _ _).alloc (Nat.le_refl _) _
  refine h g cap w' ⟨?_, ?_, ?_⟩ ?_ ?_
  · unfold OwnS
    rw [List.length_append, List.map_append]
    exact hown1
  · exact (hown.two.below hb0).other hgrow hown.apart
  · intro k hk hvk
    have hkg : g = k := by simpa [Value.ownBlock] using hk
    subst hkg
    rcases hgw with e | e
    · exact hown.apart g e hvk
    · have := (hown.two.lt g hvk).2
      simp at e
      omega
  · exact ((Below.refl B wr).alloc hB _).grown hgrow (by simp; omega) (fun k hk => (hown.one.lt k hk).1)
  · intro j hj hne
    exact (hgrow.block j (by simp; omega) (fun e => hne e.symm)).trans (hb0.block j hj)
/-- All texts of the second row behind those of the first. -/
theorem wp_appAll {ops : Array Oper} {rest : List Oper} {o : Oper} {a : Act} {Q : Exit → Act → World → Prop} (hgd : o.guard = none) (s x : Operand)
    (ho : o.op = .call { callee := .builtin .append, args := #[s, x], argTypes := #[50, 50] })
    (B : Nat) (wr : World) (u v : Value) (xs ys : List ByteArray) (n m : Nat) (hs : a.eval s = u) (hx : a.eval x = v) (hown : Two wr B u v xs ys) (hn : xs.length = n) (hm : ys.length = m) (h0 : 0 < m) (hl : n + m ≤ 100000) (hB : B ≤ wr.heap.size)
    (h : ∀ g cap w', OwnS w' B (.slice (some ⟨g, 0, none⟩) (n + m) cap) (xs ++ ys) → Below B wr w' → wpList Tryd.prog ops Q rest (a.put o.dst (.slice (some ⟨g, 0, none⟩) (n + m) cap)) w') :
    wpList Tryd.prog ops Q (o :: rest) a wr := by
  subst hn hm
  obtain ⟨i0, hi0, hz0, hz1, hz2⟩ := info_parts info9
  rcases hown.two.2 with ⟨_, e⟩ | ⟨gv, cv, cur, rfl, hbv, hhv, h1, h2, h3, h4⟩
  · omega
  · refine wpList_append_lies _ hgd s x 50 ho B 9 i0 (.string ⟨#[]⟩) 1 16 Tryd.underlying50 hi0 hz0 hz1 hz2 rfl (by omega) u xs.length _ hs hown.one ⟨gv, 0, none⟩ ys.length cv (ys.map Value.string) hx (by simp)
      (fun j q hj => World.ownsRow.cells hown.two (g := gv) rfl j q hj) (fun q hq => by obtain ⟨b, _, rfl⟩ := List.mem_map.1 hq; rfl) h0 (by unfold maxLen; omega) (by omega) hB _ rfl ?_
    intro g cap w' hown1 hgrow hgw hlt
    refine h g cap w' ?_ ((Below.refl B wr).grown hgrow hB (fun k hk => (hown.one.lt k hk).1))
    unfold OwnS
    rw [List.length_append, List.map_append]
    exact hown1
def lowN (p : Par) : ByteArray := bs (p.1.data.toList.map low)
def plain8 (p : Par) : Bool := plainL p.1.data.toList p.2.data.toList
/-- The names of those that aren't plain, and of those that are, in their order; how many bytes of values the latter have. -/
def notPlain (ps : List Par) : List ByteArray := (ps.filter fun p => !plain8 p).map lowN
def arePlain (ps : List Par) : List ByteArray := (ps.filter fun p => plain8 p).map lowN
def together (ps : List Par) : Nat := ((ps.filter fun p => plain8 p).map fun p => p.2.size).sum
def askedNames (ps : List Par) : List ByteArray := if 1024 < together ps then notPlain ps ++ arePlain ps else notPlain ps
def askedL (ps : List Par) : List ByteArray := (Lib.compact (sortL (tx (askedNames ps)))).map bs
theorem take_next (ps : List Par) (k : Nat) (p : Par) (h : ps[k]? = some p) : ps.take (k + 1) = ps.take k ++ [p] := by
  obtain ⟨hk, e⟩ := List.getElem?_eq_some_iff.1 h
  rw [List.take_succ_eq_append_getElem hk, e]
theorem notPlain_yes (ps : List Par) (k : Nat) (p : Par) (h : ps[k]? = some p) (hp : plain8 p = true) : notPlain (ps.take (k + 1)) = notPlain (ps.take k) ∧ arePlain (ps.take (k + 1)) = arePlain (ps.take k) ++ [lowN p] ∧ together (ps.take (k + 1)) = together (ps.take k) + p.2.size := by
  unfold notPlain arePlain together
  rw [take_next ps k p h]
  simp [List.filter_append, hp]
theorem notPlain_no (ps : List Par) (k : Nat) (p : Par) (h : ps[k]? = some p) (hp : plain8 p = false) : notPlain (ps.take (k + 1)) = notPlain (ps.take k) ++ [lowN p] ∧ arePlain (ps.take (k + 1)) = arePlain (ps.take k) ∧ together (ps.take (k + 1)) = together (ps.take k) := by
  unfold notPlain arePlain together
  rw [take_next ps k p h]
  simp [List.filter_append, hp]
theorem sum_le (l : List Nat) (m : Nat) (h : ∀ x ∈ l, x ≤ m) : l.sum ≤ l.length * m := by
  induction l with
  | nil => simp
  | cons a t ih =>
    have h1 := h a (by simp)
    have h2 := ih (fun x hx => h x (by simp [hx]))
    rw [List.sum_cons, List.length_cons, Nat.succ_mul]
    omega
theorem plain_short (p : Par) (h : plain8 p = true) : p.2.size ≤ 128 := by
  unfold plain8 plainL at h
  rw [Bool.and_eq_true] at h
  have := of_decide_eq_true h.1
  have e : p.2.data.toList.length = p.2.size := Array.length_toList
  omega
theorem together_le (ps : List Par) : together ps ≤ ps.length * 128 := by
  unfold together
  refine Nat.le_trans (sum_le _ 128 ?_) (Nat.mul_le_mul_right _ ?_)
  · intro x hx
    obtain ⟨p, hp, rfl⟩ := List.mem_map.1 hx
    exact plain_short p (by simpa using (List.mem_filter.1 hp).2)
  · rw [List.length_map]; exact List.length_filter_le _ _
theorem lens_le (ps : List Par) : (notPlain ps).length + (arePlain ps).length = ps.length := by
  unfold notPlain arePlain
  rw [List.length_map, List.length_map]
  induction ps with
  | nil => rfl
  | cons p r ih =>
    cases h : plain8 p
    · rw [List.filter_cons_of_pos (by simp [h]), List.filter_cons_of_neg (by simp [h])]
      simp only [List.length_cons]
      omega
    · rw [List.filter_cons_of_neg (by simp [h]), List.filter_cons_of_pos (by simp [h])]
      simp only [List.length_cons]
      omega
theorem together_none (ps : List Par) (h : (arePlain ps).length = 0) : together ps = 0 := by
  unfold arePlain at h
  unfold together
  rw [List.length_map] at h
  rw [List.eq_nil_of_length_eq_zero h]
  rfl
end Go.Proofs.YtihhabidfcgogaaDoor

/- What passes allow. -/
namespace Go.Proofs.YtihhabidfcgogaaDoor

def authB : List UInt8 := [97, 117, 116, 104, 111, 114, 105, 122, 97, 116, 105, 111, 110]
def okM (wi : Bool) (m : ByteArray) (p : PsV) : Bool := p.me.toList == m.toList || (p.me.toList == [42] && !wi)
def okH (wi : Bool) (n : ByteArray) (p : PsV) : Bool := p.he.toList == n.toList || (p.he.toList == [42] && !wi && !(n.toList == [97, 117, 116, 104, 111, 114, 105, 122, 97, 116, 105, 111, 110]))
def coversL (wi : Bool) (m : ByteArray) (xs : List ByteArray) (l : List PsV) : Bool := (simpleL m.toList || l.any (okM wi m)) && xs.all fun n => l.any (okH wi n)
end Go.Proofs.YtihhabidfcgogaaDoor

/- The library's functions over a row of passes that lies somewhere. -/
namespace Go.Proofs.YtihhabidfcgogaaDoor
open Go.RowKit

/-- A function that says whether a pass is of a kind, at these, and what it holds. -/
structure KindQ (K : Nat) (lb : Array Value) (f : PsV → Bool) (ps : List PsV) (w : World) : Prop where
  says : ∀ p ∈ ps, ∀ W : World, Below w.heap.size w W → Calls Tryd.prog K (#[.agg #[.bool p.fs, .string p.fh, .int .i64 p.fp, .bool p.us, .string p.uh, .int .i64 p.up, .string p.pa, .string p.qu, .bool p.wi, .string p.me, .string p.he, .int .i64 p.un]] ++ lb) W fun e w' => e = .returned (.bool (f p)) ∧ Below W.heap.size W w'
  enters : ∀ (args : Array Value) (W : World), (callFunc K args).run Tryd.prog W = .ok (.enter K args) W
set_option maxRecDepth 100000 in
set_option maxHeartbeats 4000000 in
theorem indexQ_any (K : Nat) (lb : Array Value) (f : PsV → Bool) (ps : List PsV) (w : World) (hK : KindQ K lb f ps w) (a0 : Option Addr) (len cap b off : Nat) (hlen : len ≤ 1000000) (hx : Pss w a0 len b off ps) :
    Calls Tryd.prog 37 #[.slice a0 len cap, .func (.func K) #[] lb] w fun e w' => (∃ r : Int, e = .returned (.int .i64 r) ∧ Hid (decide (0 ≤ r) = ps.any f)) ∧ Below w.heap.size w w' := by
  have HX : Hid (Pss w a0 len b off ps) := hx
  have hl := hx.len_eq
  have HL : Hid (ps.length = len) := hl
  have HK0 : Hid (KindQ K lb f ps w) := hK
  have hen := hK.enters
  clear hK hx hl
  go_enter Tryd.func37, Tryd.ntmps37
  go_wp2
  go_loopw [8] (fun i wr => ∃ (k : Nat), k ≤ len ∧ i = .int .i64 k ∧ Hid ((ps.take k).any f = false) ∧ Hid (Below w.heap.size w wr)) (fun i _ => len - (intOf i).toNat)
  case atStart => exact ⟨0, Nat.zero_le _, rfl, rfl, Below.refl _ _⟩
  case round =>
    obtain ⟨k, hk, rfl, HK, HB⟩ := hrel
    by_cases hlt : k < len
    · have hltz : (k : Int) < (len : Int) := by omega
      obtain ⟨p, hp⟩ : ∃ p, ps[k]? = some p := ⟨ps[k]'(by have := HL.out; omega), List.getElem?_eq_getElem (by have := HL.out; omega)⟩
      have HPK : Hid (ps[k]? = some p) := hp
      have HM : Hid (p ∈ ps) := List.mem_of_getElem? hp
      obtain ⟨ha0, _⟩ := HX.out.lies (by omega)
      subst ha0
      obtain ⟨c0, c1, c2, c3, c4, c5, c6, c7, c8, c9, c10, c11⟩ := (HX.out.below HB.out).all hp
      have hsay := HK0.out.says p HM.out wr HB.out
      clear hp
      obtain ⟨q, HF⟩ : ∃ q, Hid (f p = q) := ⟨_, rfl⟩
      rw [HF.out] at hsay
      obtain ⟨xfs, xfh, xfp, xus, xuh, xup, xpa, xqu, xwi, xme, xhe, xun⟩ := p
      have HSAY : Hid (Calls Tryd.prog K (#[.agg #[.bool xfs, .string xfh, .int .i64 xfp, .bool xus, .string xuh, .int .i64 xup, .string xpa, .string xqu, .bool xwi, .string xme, .string xhe, .int .i64 xun]] ++ lb) wr fun e w' => e = .returned (.bool q) ∧ Below wr.heap.size wr w') := hsay
      clear hsay
      simp only at c0 c1 c2 c3 c4 c5 c6 c7 c8 c9 c10 c11
      cases q
      · have HS : Hid ((ps.take (k + 1)).any f = false) := take_any HK.out HPK.out HF.out
        go_wp2_with fail
        refine HSAY.out.mono ?_
        rintro e w' ⟨rfl, hb'⟩
        have HB2 : Hid (Below w.heap.size w w') := HB.out.trans (hb'.mono HB.out.size)
        clear hb'
        go_wp2
        go_roundw
        case rel => exact ⟨k + 1, by omega, by go_num, HS, HB2⟩
        case measure => simp [intOf]; omega
      · have HS : Hid (ps.any f = true) := List.any_eq_true.2 ⟨_, HM.out, HF.out⟩
        go_wp2_with fail
        refine HSAY.out.mono ?_
        rintro e w' ⟨rfl, hb'⟩
        have HB2 : Hid (Below w.heap.size w w') := HB.out.trans (hb'.mono HB.out.size)
        clear hb'
        go_wp2
        go_ret
        exact ⟨⟨_, rfl, by show _ = _; rw [HS.out]; exact decide_eq_true (Int.natCast_nonneg _)⟩, HB2.out⟩
    · have hltz : ¬ (k : Int) < (len : Int) := by omega
      have HS : Hid (ps.any f = false) := by
        have := HK.out
        rw [List.take_of_length_le (by have := HL.out; omega)] at this
        exact this
      go_wp2
      go_ret
      exact ⟨⟨_, rfl, by show _ = _; rw [HS.out]; rfl⟩, HB.out⟩
theorem containsQ_any (K : Nat) (lb : Array Value) (f : PsV → Bool) (ps : List PsV) (w : World) (hK : KindQ K lb f ps w) (a0 : Option Addr) (len cap b off : Nat) (hlen : len ≤ 1000000) (hx : Pss w a0 len b off ps) :
    Calls Tryd.prog 16 #[.slice a0 len cap, .func (.func K) #[] lb] w fun e w' => e = .returned (.bool (ps.any f)) ∧ Below w.heap.size w w' := by
  go_enter Tryd.func16, Tryd.ntmps16
  go_wp2_with (go_at_call 37; refine (indexQ_any K lb f ps w hK a0 len cap b off hlen hx).mono ?_; rintro e w'' ⟨⟨r, rfl, HR⟩, hb⟩)
  go_ret
  exact ⟨ret_bool HR.out, hb⟩
end Go.Proofs.YtihhabidfcgogaaDoor

/- Which headers must be asked for, by the program: the walk. -/
namespace Go.Proofs.YtihhabidfcgogaaDoor
open Go.RowKit Go.Shelf

/-- The headers are small, and few. -/
def Small8 (ps : List Par) : Prop := ∀ p ∈ ps, p.1.size ≤ 3000 ∧ p.2.size ≤ 3000
def AskInv (w : World) (ps : List Par) (k : Nat) (u v : Value) (W : World) : Prop :=
  Two W w.heap.size u v (notPlain (ps.take k)) (arePlain (ps.take k)) ∧ Below w.heap.size w W
theorem OwnS.slice {w : World} {B : Nat} {v : Value} {xs : List ByteArray} (h : OwnS w B v xs) : ∃ a cap, v = .slice a xs.length cap := by
  obtain ⟨a, cap, _, e, _⟩ := h.strs
  exact ⟨a, cap, e⟩
set_option maxRecDepth 100000 in
set_option maxHeartbeats 8000000 in
theorem asked8_any (ps : List Par) (hps : Small8 ps) (a0 : Option Addr) (len cap b off : Nat) (hlen : len ≤ 60) (w : World) (hx : Pars w a0 len b off ps) :
    Calls Tryd.prog 21 #[.slice a0 len cap] w fun e w' => (∃ v, e = .returned v ∧ OwnS w' w.heap.size v (askedL ps)) ∧ Below w.heap.size w w' := by
  have HX : Hid (Pars w a0 len b off ps) := hx
  have HP : Hid (Small8 ps) := hps
  have HL : Hid (ps.length = len) := hx.len_eq
  clear hx hps
  go_enter Tryd.func21, Tryd.ntmps21
  go_wp2
  go_loopw [3, 4, 5, 11] (fun su sv t i wr => ∃ (k : Nat) (tg : Nat) (u v : Value), k ≤ len ∧ u = su ∧ v = sv ∧ i = .int .i64 k ∧ t = .int .i64 tg ∧ tg ≤ 10000 ∧ Hid (tg = together (ps.take k)) ∧ Hid (AskInv w ps k u v wr)) (fun _ _ _ i _ => len - (intOf i).toNat)
  case atStart => exact ⟨0, 0, _, _, Nat.zero_le _, rfl, rfl, rfl, rfl, by omega, rfl, ⟨⟨ownS_nil _ _, ownS_nil _ _, fun k h => by cases h⟩, Below.refl _ _⟩⟩
  case round =>
    obtain ⟨k, tg, u, v, hk, rfl, rfl, rfl, rfl, htg, HT, HI⟩ := hrel
    by_cases hlt : k < len
    · have hltz : (k : Int) < (len : Int) := by omega
      obtain ⟨p, hp⟩ : ∃ p, ps[k]? = some p := ⟨ps[k]'(by have := HL.out; omega), List.getElem?_eq_getElem _⟩
      obtain ⟨pn, pv⟩ := p
      have HPK : Hid (ps[k]? = some (pn, pv)) := hp
      have hpz := HP.out _ (List.mem_of_getElem? hp)
      have hpz1 : pn.size ≤ 3000 := hpz.1
      have hpz2 : pv.size ≤ 3000 := hpz.2
      obtain ⟨ha0, _⟩ := HX.out.lies (by omega)
      subst ha0
      have hXr := HX.out.below HI.out.2
      have c1 : wr.cell? ⟨b, off + k * 2, none⟩ = some (.string pn) := hXr.one k _ hp
      have c2 : wr.cell? ⟨b, off + k * 2 + 1, none⟩ = some (.string pv) := hXr.two k _ hp
      have HW0 : Hid (∀ w', Below (wr.alloc (.cells #[.string pn, .string pv] 71)).heap.size (wr.alloc (.cells #[.string pn, .string pv] 71)) w' → AskInv w ps k u v w' ∧ w'.heap[wr.heap.size]? = some (.cells #[.string pn, .string pv] 71 (0, 0))) := fun w' hb => by
        have hb0 : Below wr.heap.size wr (wr.alloc (.cells #[.string pn, .string pv] 71)) := (Below.refl _ _).alloc (Nat.le_refl _) _
        have hb1 : Below wr.heap.size wr w' := hb0.trans (hb.mono (by simp))
        exact ⟨⟨HI.out.1.below hb1, HI.out.2.trans (hb1.mono HI.out.2.size)⟩, (hb.block _ (by simp)).trans (heap_alloc_new wr _)⟩
      obtain ⟨x, HN⟩ : ∃ x : ByteArray, Hid (bs (pn.data.toList.map low) = x) := ⟨_, rfl⟩
      have HVB : Hid ((∀ j, u.ownBlock = some j → j < wr.heap.size) ∧ (∀ j, v.ownBlock = some j → j < wr.heap.size)) := ⟨fun j h => (HI.out.1.one.lt j h).2, fun j h => (HI.out.1.two.lt j h).2⟩
      clear hp hpz hXr HI
      go_wp2_with fail
      refine (lower_any pn _ (by omega)).mono ?_
      rintro e w1 ⟨rfl, hb1⟩
      rw [HN.out]
      have HW1 : Hid (AskInv w ps k u v w1 ∧ w1.heap[wr.heap.size]? = some (.cells #[.string pn, .string pv] 71 (0, 0))) := HW0.out _ hb1
      clear hb1 HW0 c1 c2
      obtain ⟨x0, x1, _⟩ := two_at HW1.out.2
      obtain ⟨q, HQ⟩ : ∃ q, Hid (plainL pn.data.toList pv.data.toList = q) := ⟨_, rfl⟩
      go_wp2_with fail
      refine (plain_any pn pv (by omega) (by omega) _).mono ?_
      rintro e w2 ⟨rfl, hb2⟩
      rw [HQ.out]
      have HW2 : Hid (AskInv w ps k u v w2 ∧ w2.heap[wr.heap.size]? = some (.cells #[.string pn, .string pv] 71 (0, 0))) := ⟨⟨HW1.out.1.1.below hb2, HW1.out.1.2.trans (hb2.mono HW1.out.1.2.size)⟩, (hb2.block _ (Array.getElem?_eq_some_iff.1 HW1.out.2).1).trans HW1.out.2⟩
      clear hb2 x0 x1 HW1
      have hlens : (notPlain (ps.take k)).length + (arePlain (ps.take k)).length ≤ 60 := by
        have h1 := lens_le (ps.take k)
        have h2 : (ps.take k).length ≤ k := List.length_take_le _ _
        omega
      obtain ⟨au, cu, rfl⟩ := HW2.out.1.1.one.slice
      obtain ⟨av, cv, rfl⟩ := HW2.out.1.1.two.slice
      obtain ⟨nu, HNU⟩ : ∃ n, Hid ((notPlain (ps.take k)).length = n) := ⟨_, rfl⟩
      obtain ⟨nv, HNV⟩ : ∃ n, Hid ((arePlain (ps.take k)).length = n) := ⟨_, rfl⟩
      rw [HNU.out, HNV.out] at hlens
      rw [HNU.out, HNV.out] at HW2 HVB ⊢
      cases q
      · have HS := notPlain_no ps k _ HPK.out HQ.out
        have HNX : Hid (lowN (pn, pv) = x) := HN.out
        go_wp2_with (at_builtin; refine wp_app2 rfl _ _ rfl w.heap.size w2 (.slice au nu cu) (.slice av nv cv) _ _ nu rfl HW2.out.1.1 HNU.out (by omega) HW2.out.1.2.size x rfl ?_; intro g4 cap4 w4 hown4 hb4 hk4; have HW4 : Hid (Two w4 w.heap.size (.slice (some ⟨g4, 0, none⟩) (nu + 1) cap4) (.slice av nv cv) (notPlain (ps.take k) ++ [x]) (arePlain (ps.take k)) ∧ Below w.heap.size w w4) := ⟨hown4, HW2.out.1.2.trans hb4⟩; clear hown4 hb4 hk4)
        go_roundw
        case rel => exact ⟨k + 1, tg, _, _, by omega, rfl, rfl, by go_num, rfl, htg, by rw [HS.2.2]; exact HT, ⟨by rw [HS.1, HS.2.1, HNX.out]; exact HW4.out.1, HW4.out.2⟩⟩
        case measure => simp [intOf]; omega
      · have HS := notPlain_yes ps k _ HPK.out HQ.out
        have HNX : Hid (lowN (pn, pv) = x) := HN.out
        have htn : tg + pv.size ≤ 10000 := by
          have h1 := together_le (ps.take (k + 1))
          have h2 : (ps.take (k + 1)).length ≤ k + 1 := List.length_take_le _ _
          have h3 := HS.2.2
          have h4 : tg = together (ps.take k) := HT
          simp only at h3
          omega
        go_wp2_with (at_builtin; refine wp_app2 rfl _ _ rfl w.heap.size w2 (.slice av nv cv) (.slice au nu cu) _ _ nv rfl HW2.out.1.1.swap HNV.out (by omega) HW2.out.1.2.size x rfl ?_; intro g4 cap4 w4 hown4 hb4 hk4; have HW4 : Hid (Two w4 w.heap.size (.slice au nu cu) (.slice (some ⟨g4, 0, none⟩) (nv + 1) cap4) (notPlain (ps.take k)) (arePlain (ps.take k) ++ [x]) ∧ Below w.heap.size w w4) := ⟨hown4.swap, HW2.out.1.2.trans hb4⟩; have x1 := (two_at ((hk4 wr.heap.size (Array.getElem?_eq_some_iff.1 HW2.out.2).1 (fun e => Nat.lt_irrefl _ (HVB.out.2 _ e))).trans HW2.out.2)).2.1; clear hown4 hb4 hk4)
        go_roundw
        case rel => exact ⟨k + 1, tg + pv.size, _, _, by omega, rfl, rfl, by go_num, by go_num, htn, by rw [HS.2.2]; show tg + pv.size = _ + pv.size; rw [HT.out], ⟨by rw [HS.1, HS.2.1, HNX.out]; exact HW4.out.1, HW4.out.2⟩⟩
        case measure => simp [intOf]; omega
    · have hltz : ¬ (k : Int) < (len : Int) := by omega
      have HE : Hid (Two wr w.heap.size u v (notPlain ps) (arePlain ps) ∧ Below w.heap.size w wr ∧ tg = together ps) := by
        have h1 := HI.out
        have h2 : tg = together (ps.take k) := HT
        unfold AskInv at h1
        rw [List.take_of_length_le (by have := HL.out; omega)] at h1 h2
        exact ⟨h1.1, h1.2, h2⟩
      have hlens : (notPlain ps).length + (arePlain ps).length ≤ 60 := by
        have h1 := lens_le ps
        have := HL.out
        omega
      clear HI HT
      obtain ⟨au, cu, rfl⟩ := HE.out.1.one.slice
      obtain ⟨av, cv, rfl⟩ := HE.out.1.two.slice
      obtain ⟨nu, HNU⟩ : ∃ n, Hid ((notPlain ps).length = n) := ⟨_, rfl⟩
      obtain ⟨nv, HNV⟩ : ∃ n, Hid ((arePlain ps).length = n) := ⟨_, rfl⟩
      rw [HNU.out, HNV.out] at hlens
      rw [HNU.out, HNV.out] at HE ⊢
      go_upto_if 35 with fail
      go_cut [3] (fun s3 wc => ∃ u' : Value, u' = s3 ∧ Hid (OwnS wc w.heap.size u' (askedNames ps) ∧ Below w.heap.size w wc))
      case first =>
        by_cases hbig : 1024 < tg
        · have hbz : (1024 : Int) < (tg : Int) := by omega
          have HN : Hid (askedNames ps = notPlain ps ++ arePlain ps) := by
            show _ = _
            unfold askedNames
            rw [if_pos (by rw [← HE.out.2.2]; exact hbig)]
          have hn0 : 0 < nv := by
            rcases Nat.eq_zero_or_pos nv with h0 | h0
            · have h1 := together_none ps (by rw [HNV.out]; exact h0)
              have h2 := HE.out.2.2
              omega
            · exact h0
          go_wp2_with (at_builtin; refine wp_appAll rfl _ _ rfl w.heap.size wr (.slice au nu cu) (.slice av nv cv) _ _ nu nv rfl rfl HE.out.1 HNU.out HNV.out hn0 (by omega) HE.out.2.1.size ?_; intro g4 cap4 w4 hown4 hb4; have HW4 : Hid (OwnS w4 w.heap.size (.slice (some ⟨g4, 0, none⟩) (nu + nv) cap4) (notPlain ps ++ arePlain ps) ∧ Below w.heap.size w w4) := ⟨hown4, HE.out.2.1.trans hb4⟩; clear hown4 hb4)
          go_meet
          exact ⟨_, rfl, by rw [HN.out]; exact HW4⟩
        · have hbz : ¬ (1024 : Int) < (tg : Int) := by omega
          have HN : Hid (askedNames ps = notPlain ps) := by
            show _ = _
            unfold askedNames
            rw [if_neg (by rw [← HE.out.2.2]; exact hbig)]
          go_wp2
          go_meet
          exact ⟨_, rfl, by rw [HN.out]; exact ⟨HE.out.1.one, HE.out.2.1⟩⟩
      case rest =>
      obtain ⟨u', rfl, HC⟩ := hcut
      have hal : (askedNames ps).length ≤ 1000000 := by
        unfold askedNames
        split
        · rw [List.length_append, HNU.out, HNV.out]; omega
        · rw [HNU.out]; omega
      clear HE hlens
      go_wp2_with fail
      refine (sort_own _ w.heap.size u' _ HC.out.1 hal).mono ?_
      rintro e w5 ⟨rfl, hown5, hg5⟩
      have HW5 : Hid (OwnS w5 w.heap.size u' ((sortL (tx (askedNames ps))).map bs) ∧ Below w.heap.size w w5) := ⟨hown5, HC.out.2.grown hg5 HC.out.2.size (fun j hj => (HC.out.1.lt j hj).1)⟩
      clear hown5 hg5
      go_wp2_with fail
      refine (compact_own _ w.heap.size u' _ HW5.out.1 (by rw [List.length_map, sortL_len]; unfold tx; rw [List.length_map]; exact hal)).mono ?_
      rintro e w6 ⟨⟨v6, rfl, hown6⟩, hg6⟩
      have HW6 : Hid (OwnS w6 w.heap.size v6 (askedL ps) ∧ Below w.heap.size w w6) := by
        rw [tx_bs] at hown6
        exact ⟨hown6, HW5.out.2.grown hg6 HW5.out.2.size (fun j hj => (HW5.out.1.lt j hj).1)⟩
      clear hown6 hg6
      go_wp2
      go_ret
      exact ⟨⟨v6, rfl, HW6.out.1⟩, HW6.out.2⟩
end Go.Proofs.YtihhabidfcgogaaDoor

/- Covers: whether passes allow a request, by the program. -/
namespace Go.Proofs.YtihhabidfcgogaaDoor
open Go.RowKit

set_option maxRecDepth 100000 in
set_option maxHeartbeats 2000000 in
theorem allowsM (p : PsV) (gm gr : Nat) (m : ByteArray) (wi : Bool) (w : World) (h1 : w.cell? ⟨gm, 0, none⟩ = some (.string m)) (h2 : w.cell? ⟨gr, 11, none⟩ = some (.bool wi)) :
    Calls Tryd.prog 51 #[.agg #[.bool p.fs, .string p.fh, .int .i64 p.fp, .bool p.us, .string p.uh, .int .i64 p.up, .string p.pa, .string p.qu, .bool p.wi, .string p.me, .string p.he, .int .i64 p.un], .pointer (some ⟨gm, 0, none⟩), .pointer (some ⟨gr, 0, none⟩)] w fun e w' => e = .returned (.bool (okM wi m p)) ∧ Below w.heap.size w w' := by
  have HB : Hid (BoxQ 35 w #[.bool p.fs, .string p.fh, .int .i64 p.fp, .bool p.us, .string p.uh, .int .i64 p.up, .string p.pa, .string p.qu, .bool p.wi, .string p.me, .string p.he, .int .i64 p.un] (w.alloc (.cells #[.bool p.fs, .string p.fh, .int .i64 p.fp, .bool p.us, .string p.uh, .int .i64 p.up, .string p.pa, .string p.qu, .bool p.wi, .string p.me, .string p.he, .int .i64 p.un] 35))) := BoxQ.new _ _ _
  have h1' : (w.alloc (.cells #[.bool p.fs, .string p.fh, .int .i64 p.fp, .bool p.us, .string p.uh, .int .i64 p.up, .string p.pa, .string p.qu, .bool p.wi, .string p.me, .string p.he, .int .i64 p.un] 35)).cell? ⟨gm, 0, none⟩ = some (.string m) := (HB.out.bel.cell (p := ⟨gm, 0, none⟩) (lt_cell9 h1)).trans h1
  have h2' : (w.alloc (.cells #[.bool p.fs, .string p.fh, .int .i64 p.fp, .bool p.us, .string p.uh, .int .i64 p.up, .string p.pa, .string p.qu, .bool p.wi, .string p.me, .string p.he, .int .i64 p.un] 35)).cell? ⟨gr, 11, none⟩ = some (.bool wi) := (HB.out.bel.cell (p := ⟨gr, 11, none⟩) (lt_cell9 h2)).trans h2
  have c9 := HB.out.at 9 _ rfl
  obtain ⟨q, HQ⟩ : ∃ q, Hid ((p.me.toList == m.toList) = q) := ⟨_, rfl⟩
  obtain ⟨r, HR⟩ : ∃ r, Hid ((p.me.toList == [42]) = r) := ⟨_, rfl⟩
  have q1 : (p.me.toList == m.toList) = q := HQ.out
  have r1 : (p.me.toList == [42]) = r := HR.out
  have HA : Hid (okM wi m p = (q || (r && !wi))) := by show _ = _; unfold okM; rw [q1, r1]
  clear h1 h2
  go_enter Tryd.func51, Tryd.ntmps51
  cases q
  · cases r
    · go_wp2
      go_ret
      exact ⟨ret_bool (by rw [HA.out]; rfl), HB.out.bel⟩
    · go_wp2
      go_ret
      exact ⟨ret_bool (by rw [HA.out]; simp), HB.out.bel⟩
  · go_wp2
    go_ret
    exact ⟨ret_bool (by rw [HA.out]; rfl), HB.out.bel⟩
set_option maxRecDepth 100000 in
set_option maxHeartbeats 2000000 in
theorem allowsH (p : PsV) (gm gr : Nat) (n : ByteArray) (wi : Bool) (w : World) (h1 : w.cell? ⟨gm, 0, none⟩ = some (.string n)) (h2 : w.cell? ⟨gr, 11, none⟩ = some (.bool wi)) :
    Calls Tryd.prog 52 #[.agg #[.bool p.fs, .string p.fh, .int .i64 p.fp, .bool p.us, .string p.uh, .int .i64 p.up, .string p.pa, .string p.qu, .bool p.wi, .string p.me, .string p.he, .int .i64 p.un], .pointer (some ⟨gm, 0, none⟩), .pointer (some ⟨gr, 0, none⟩)] w fun e w' => e = .returned (.bool (okH wi n p)) ∧ Below w.heap.size w w' := by
  have HB : Hid (BoxQ 35 w #[.bool p.fs, .string p.fh, .int .i64 p.fp, .bool p.us, .string p.uh, .int .i64 p.up, .string p.pa, .string p.qu, .bool p.wi, .string p.me, .string p.he, .int .i64 p.un] (w.alloc (.cells #[.bool p.fs, .string p.fh, .int .i64 p.fp, .bool p.us, .string p.uh, .int .i64 p.up, .string p.pa, .string p.qu, .bool p.wi, .string p.me, .string p.he, .int .i64 p.un] 35))) := BoxQ.new _ _ _
  have h1' : (w.alloc (.cells #[.bool p.fs, .string p.fh, .int .i64 p.fp, .bool p.us, .string p.uh, .int .i64 p.up, .string p.pa, .string p.qu, .bool p.wi, .string p.me, .string p.he, .int .i64 p.un] 35)).cell? ⟨gm, 0, none⟩ = some (.string n) := (HB.out.bel.cell (p := ⟨gm, 0, none⟩) (lt_cell9 h1)).trans h1
  have h2' : (w.alloc (.cells #[.bool p.fs, .string p.fh, .int .i64 p.fp, .bool p.us, .string p.uh, .int .i64 p.up, .string p.pa, .string p.qu, .bool p.wi, .string p.me, .string p.he, .int .i64 p.un] 35)).cell? ⟨gr, 11, none⟩ = some (.bool wi) := (HB.out.bel.cell (p := ⟨gr, 11, none⟩) (lt_cell9 h2)).trans h2
  have c10 := HB.out.at 10 _ rfl
  obtain ⟨q, HQ⟩ : ∃ q, Hid ((p.he.toList == n.toList) = q) := ⟨_, rfl⟩
  obtain ⟨r, HR⟩ : ∃ r, Hid ((p.he.toList == [42]) = r) := ⟨_, rfl⟩
  have q1 : (p.he.toList == n.toList) = q := HQ.out
  have r1 : (p.he.toList == [42]) = r := HR.out
  have HA : Hid (okH wi n p = (q || (r && !wi && !(n.toList == [97, 117, 116, 104, 111, 114, 105, 122, 97, 116, 105, 111, 110])))) := by show _ = _; unfold okH; rw [q1, r1]
  clear h1 h2
  go_enter Tryd.func52, Tryd.ntmps52
  cases q
  · cases r
    · go_wp2
      go_ret
      exact ⟨ret_bool (by rw [HA.out]; rfl), HB.out.bel⟩
    · cases wi
      · go_wp2
        go_ret
        exact ⟨ret_bool (by rw [HA.out]; simp), HB.out.bel⟩
      · go_wp2
        go_ret
        exact ⟨ret_bool (by rw [HA.out]; rfl), HB.out.bel⟩
  · go_wp2
    go_ret
    exact ⟨ret_bool (by rw [HA.out]; rfl), HB.out.bel⟩
theorem kindM (ps : List PsV) (gm gr : Nat) (m : ByteArray) (wi : Bool) (w : World) (h1 : w.cell? ⟨gm, 0, none⟩ = some (.string m)) (h2 : w.cell? ⟨gr, 11, none⟩ = some (.bool wi)) :
    KindQ 51 #[.pointer (some ⟨gm, 0, none⟩), .pointer (some ⟨gr, 0, none⟩)] (okM wi m) ps w :=
  ⟨fun p _ W hW => allowsM p gm gr m wi W ((hW.cell (p := ⟨gm, 0, none⟩) (lt_cell9 h1)).trans h1) ((hW.cell (p := ⟨gr, 11, none⟩) (lt_cell9 h2)).trans h2), enters_at Tryd.func51 (by kernel_rfl) rfl⟩
theorem kindH (ps : List PsV) (gm gr : Nat) (n : ByteArray) (wi : Bool) (w : World) (h1 : w.cell? ⟨gm, 0, none⟩ = some (.string n)) (h2 : w.cell? ⟨gr, 11, none⟩ = some (.bool wi)) :
    KindQ 52 #[.pointer (some ⟨gm, 0, none⟩), .pointer (some ⟨gr, 0, none⟩)] (okH wi n) ps w :=
  ⟨fun p _ W hW => allowsH p gm gr n wi W ((hW.cell (p := ⟨gm, 0, none⟩) (lt_cell9 h1)).trans h1) ((hW.cell (p := ⟨gr, 11, none⟩) (lt_cell9 h2)).trans h2), enters_at Tryd.func52 (by kernel_rfl) rfl⟩
set_option maxRecDepth 100000 in
set_option maxHeartbeats 8000000 in
theorem covers9_any (hs : List Par) (hps : Small8 hs) (ra : Option Addr) (rl rc rb ro : Nat) (hrl : rl ≤ 60) (pt fp up : Int) (fs us wi : Bool) (fh uh pa qu me bo : ByteArray) (hme : me.size ≤ 3000)
    (ps : List PsV) (a0 : Option Addr) (len cap b off : Nat) (hlen : len ≤ 1000000) (w : World) (hm : Methods w) (hh : Pars w ra rl rb ro hs) (hx : Pss w a0 len b off ps) :
    Calls Tryd.prog 36 #[.agg #[.int .i64 pt, .bool fs, .string fh, .int .i64 fp, .bool us, .string uh, .int .i64 up, .string pa, .string qu, .string me, .slice ra rl rc, .bool wi, .string bo], .slice a0 len cap] w fun e w' => e = .returned (.bool (coversL wi (methodB me) (askedL hs) ps)) ∧ Below w.heap.size w w' := by
  have HQ : Hid (BoxQ 39 w #[.int .i64 pt, .bool fs, .string fh, .int .i64 fp, .bool us, .string uh, .int .i64 up, .string pa, .string qu, .string me, .slice ra rl rc, .bool wi, .string bo] (w.alloc (.cells #[.int .i64 pt, .bool fs, .string fh, .int .i64 fp, .bool us, .string uh, .int .i64 up, .string pa, .string qu, .string me, .slice ra rl rc, .bool wi, .string bo] 39))) := BoxQ.new _ _ _
  have HX : Hid (Pss w a0 len b off ps) := hx
  have HH : Hid (Pars w ra rl rb ro hs) := hh
  have HPS : Hid (Small8 hs) := hps
  have hmc := method_any me hme _ (hm.below HQ.out.bel (Nat.le_refl _))
  obtain ⟨m, HM⟩ : ∃ m, Hid (methodB me = m) := ⟨_, rfl⟩
  rw [HM.out] at hmc
  rw [HM.out]
  obtain ⟨xs, HXS⟩ : ∃ xs, Hid (askedL hs = xs) := ⟨_, rfl⟩
  rw [HXS.out]
  have hxl : xs.length ≤ 60 := by
    rw [← HXS.out]
    unfold askedL
    rw [List.length_map]
    have h1 := compact_len (sortL (tx (askedNames hs)))
    have h2 : (tx (askedNames hs)).length = (askedNames hs).length := by unfold tx; simp
    rw [sortL_len, h2] at h1
    have h3 := lens_le hs
    have h4 : (askedNames hs).length ≤ hs.length := by
      unfold askedNames
      split
      · rw [List.length_append]; omega
      · omega
    have := hh.len_eq
    omega
  clear hx hh hps hm
  have c9 := HQ.out.at 9 _ rfl
  go_enter Tryd.func36, Tryd.ntmps36
  go_wp2_with fail
  refine hmc.mono ?_
  rintro e w1 ⟨rfl, hb1⟩
  have HQ1 : Hid (BoxQ 39 w #[.int .i64 pt, .bool fs, .string fh, .int .i64 fp, .bool us, .string uh, .int .i64 up, .string pa, .string qu, .string me, .slice ra rl rc, .bool wi, .string bo] w1) := HQ.out.step hb1
  have HB2 : Hid (Below w1.heap.size w1 (w1.alloc (.cells #[.string m] 9))) := (Below.refl _ _).alloc (Nat.le_refl _) _
  have HQ2 : Hid (BoxQ 39 w #[.int .i64 pt, .bool fs, .string fh, .int .i64 fp, .bool us, .string uh, .int .i64 up, .string pa, .string qu, .string me, .slice ra rl rc, .bool wi, .string bo] (w1.alloc (.cells #[.string m] 9))) := HQ1.out.step HB2.out
  have cm : (w1.alloc (.cells #[.string m] 9)).cell? ⟨w1.heap.size, 0, none⟩ = some (.string m) := World.cell?_alloc_mark _ _ _ _ _
  have HCM : Hid ((w1.alloc (.cells #[.string m] 9)).cell? ⟨w1.heap.size, 0, none⟩ = some (.string m)) := cm
  have hlt1 := HQ1.out.lt
  clear hmc hb1 c9 HQ HQ1
  obtain ⟨z, HZ⟩ : ∃ z, Hid (simpleL m.toList = z) := ⟨_, rfl⟩
  have hsm := fun W => simple_any m W
  rw [HZ.out] at hsm
  have HW2 : Hid (Below w.heap.size w (w1.alloc (.cells #[.string m] 9))) := HQ2.out.bel
  have HCT : Hid (∀ (K : Nat) (lb : Array Value) (f : PsV → Bool) (W : World), Below w.heap.size w W → KindQ K lb f ps W → Calls Tryd.prog 16 #[.slice a0 len cap, .func (.func K) #[] lb] W fun e w' => e = .returned (.bool (ps.any f)) ∧ Below W.heap.size W w') :=
    fun K lb f W hW hk => containsQ_any K lb f ps W hk a0 len cap b off hlen (HX.out.below hW)
  obtain ⟨u, HU⟩ : ∃ u, Hid (ps.any (okM wi m) = u) := ⟨_, rfl⟩
  go_upto_region 3 with fail
  generalize hW : w1.alloc (.cells #[.string m] 9) = W2 at HB2 HQ2 HCM HW2 cm ⊢
  have HG : Hid (w1.heap.size < W2.heap.size) := by show _ < _; rw [← hW]; simp
  obtain ⟨gm, HGM⟩ : ∃ gm, Hid (w1.heap.size = gm) := ⟨_, rfl⟩
  rw [HGM.out] at HCM HG cm hlt1 ⊢
  clear hW
  have HKM : Hid (∀ W, Below W2.heap.size W2 W → KindQ 51 #[.pointer (some ⟨gm, 0, none⟩), .pointer (some ⟨w.heap.size, 0, none⟩)] (okM wi m) ps W) := fun W hW =>
    kindM ps gm w.heap.size m wi W ((hW.cell (p := ⟨gm, 0, none⟩) (lt_cell9 HCM.out)).trans HCM.out) ((HQ2.out.step hW).at 11 _ rfl)
  go_cut [22] (fun v wc => v = .bool (!(z || u)) ∧ Hid (Below W2.heap.size W2 wc))
  case first =>
    go_wp2_with fail
    refine (hsm _).mono ?_
    rintro e w3 ⟨rfl, hw3⟩
    obtain rfl := hw3.symm
    cases z
    · go_wp2_with fail
      refine (HCT.out _ _ _ _ HW2.out (HKM.out _ (Below.refl _ _))).mono ?_
      rintro e w4 ⟨rfl, hb4⟩
      rw [HU.out]
      have HB4 : Hid (Below W2.heap.size W2 w4) := hb4
      clear hb4
      go_wp2
      go_meet
      exact ⟨rfl, HB4⟩
    · go_wp2
      go_meet
      exact ⟨rfl, Below.refl _ _⟩
  case rest =>
  obtain ⟨rfl, HBC⟩ := hcut
  clear hsm cm
  have HA : Hid (coversL wi m xs ps = ((z || u) && xs.all fun n => ps.any (okH wi n))) := by show _ = _; unfold coversL; rw [HZ.out, HU.out]
  cases hzu : (z || u)
  · have HE : Hid (coversL wi m xs ps = false) := by show _ = _; rw [HA.out, hzu]; rfl
    have HB4 : Hid (Below w.heap.size w wc) := HQ2.out.inB HBC.out
    go_wp2
    go_ret
    exact ⟨ret_bool HE.out.symm, HB4.out⟩
  have HE : Hid (coversL wi m xs ps = xs.all fun n => ps.any (okH wi n)) := by show _ = _; rw [HA.out, hzu, Bool.true_and]
  clear hzu HA HZ HU HKM HCM
  have HQC : Hid (BoxQ 39 w #[.int .i64 pt, .bool fs, .string fh, .int .i64 fp, .bool us, .string uh, .int .i64 up, .string pa, .string qu, .string me, .slice ra rl rc, .bool wi, .string bo] wc) := HQ2.out.step HBC.out
  have c10 := HQC.out.at 10 _ rfl
  go_wp2_with fail
  refine (asked8_any hs HPS.out ra rl rc rb ro hrl _ (HH.out.below HQC.out.bel)).mono ?_
  rintro e w5 ⟨⟨v, rfl, hown⟩, hb5⟩
  rw [HXS.out] at hown
  obtain ⟨xa, xc, xg, rfl, hst⟩ := hown.strs
  have HQ5 : Hid (BoxQ 39 w #[.int .i64 pt, .bool fs, .string fh, .int .i64 fp, .bool us, .string uh, .int .i64 up, .string pa, .string qu, .string me, .slice ra rl rc, .bool wi, .string bo] w5) := HQC.out.step hb5
  have HS5 : Hid (Strs w5 xa xs.length xg 0 xs) := hst
  clear hown hb5 hst c10 HQC HBC HQ2 HB2
  obtain ⟨n, HN⟩ : ∃ n, Hid (xs.length = n) := ⟨_, rfl⟩
  rw [HN.out] at HS5 hxl ⊢
  go_wp2
  go_loopw [27] (fun i wr => ∃ k : Nat, k ≤ n ∧ i = .int .i64 k ∧ Hid (Below w5.heap.size w5 wr) ∧ Hid (((xs.take k).all fun n => ps.any (okH wi n)) = true)) (fun i _ => n - (intOf i).toNat)
  case atStart => exact ⟨0, Nat.zero_le _, rfl, Below.refl _ _, rfl⟩
  case round =>
    obtain ⟨k, hk, rfl, HBR, HK⟩ := hrel
    by_cases hlt : k < n
    · have hltz : (k : Int) < (n : Int) := by omega
      obtain ⟨x, hx⟩ : ∃ x, xs[k]? = some x := ⟨xs[k]'(by have := HN.out; omega), List.getElem?_eq_getElem _⟩
      have HXK : Hid (xs[k]? = some x) := hx
      obtain ⟨ha, _⟩ := HS5.out.lies (by omega)
      subst ha
      have cx : wr.cell? ⟨xg, k, none⟩ = some (.string x) := by
        have := (HS5.out.below HBR.out).cells k x hx
        rwa [Nat.zero_add] at this
      have HBA : Hid (Below wr.heap.size wr (wr.alloc (.cells #[.string x] 9))) := (Below.refl _ _).alloc (Nat.le_refl _) _
      have cn : (wr.alloc (.cells #[.string x] 9)).cell? ⟨wr.heap.size, 0, none⟩ = some (.string x) := World.cell?_alloc_mark _ _ _ _ _
      have HQA : Hid (BoxQ 39 w #[.int .i64 pt, .bool fs, .string fh, .int .i64 fp, .bool us, .string uh, .int .i64 up, .string pa, .string qu, .string me, .slice ra rl rc, .bool wi, .string bo] (wr.alloc (.cells #[.string x] 9))) := (HQ5.out.step HBR.out).step HBA.out
      have HKH : Hid (KindQ 52 #[.pointer (some ⟨wr.heap.size, 0, none⟩), .pointer (some ⟨w.heap.size, 0, none⟩)] (okH wi x) ps (wr.alloc (.cells #[.string x] 9))) := kindH ps _ _ x wi _ cn (HQA.out.at 11 _ rfl)
      obtain ⟨t, HTT⟩ : ∃ t, Hid (ps.any (okH wi x) = t) := ⟨_, rfl⟩
      clear hx cn
      go_wp2_with fail
      refine (HCT.out _ _ _ _ HQA.out.bel HKH.out).mono ?_
      rintro e w6 ⟨rfl, hb6⟩
      rw [HTT.out]
      have HB6 : Hid (Below w5.heap.size w5 w6) := HBR.out.trans ((HBA.out.trans (hb6.mono HBA.out.size)).mono HBR.out.size)
      clear hb6 cx
      cases t
      · have HEE : Hid (coversL wi m xs ps = false) := by show _ = _; rw [HE.out]; exact not_all HXK.out HTT.out
        go_wp2
        go_ret
        exact ⟨ret_bool HEE.out.symm, HQ5.out.inB HB6.out⟩
      · have HKK : Hid (((xs.take (k + 1)).all fun n => ps.any (okH wi n)) = true) := take_all HK.out HXK.out HTT.out
        go_wp2
        go_roundw
        case rel => exact ⟨k + 1, by omega, by go_num, HB6, HKK⟩
        case measure => simp [intOf]; omega
    · have hltz : ¬ (k : Int) < (n : Int) := by omega
      have HEE : Hid (coversL wi m xs ps = true) := by
        have := HK.out
        rw [List.take_of_length_le (by have := HN.out; omega)] at this
        show _ = _
        rw [HE.out]
        exact this
      go_wp2
      go_ret
      exact ⟨ret_bool HEE.out.symm, HQ5.out.inB HBR.out⟩
end Go.Proofs.YtihhabidfcgogaaDoor

/- Needs: whether a request must be asked for first, by the program. -/
namespace Go.Proofs.YtihhabidfcgogaaDoor
open Go.RowKit

def sameO (fs : Bool) (fh : ByteArray) (fp : Int) (us : Bool) (uh : ByteArray) (up : Int) : Bool := fs == us && (fh.toList == uh.toList && fp == up)
theorem eqR9 (a c : Bool) (x y : ByteArray) (n m : Int) (E : Bool) (hE : sameO a x n c y m = E) (w : World) :
    (Op.equalIn 10000 31 (.agg #[.bool a, .string x, .int .i64 n]) (.agg #[.bool c, .string y, .int .i64 m])).run Tryd.prog w = .ok E w := by
  have u3 := Tryd.underlying3
  have u4 := Tryd.underlying4
  have u9 := Tryd.underlying9
  have a3 := Tryd.isAgg3
  have z3 := Tryd.sizeOf3
  have hS : Tryd.prog.underlying 31 = some (.struct (Tryd.prog.fieldsOf 31)) := by kernel_rfl
  have hp : Tryd.prog.stoodInHeld 31 = false := by kernel_rfl
  unfold sameO at hE
  rw [show (10000 : Nat) = 9999 + 1 from rfl, run_equalIn_agg w 9999 31 _ _ hS hp, ← hE]
  simp only [Program.fieldsOf, Tryd.underlying31]
  go_simp
  rw [← hE]
  by_cases h1 : a = c <;> by_cases h2 : x.toList = y.toList <;> by_cases h3 : n = m <;> simp [h1, h2, h3]
set_option maxRecDepth 100000 in
set_option maxHeartbeats 4000000 in
theorem needs9_any (hs : List Par) (hps : Small8 hs) (ra : Option Addr) (rl rc rb ro : Nat) (hrl : rl ≤ 60) (pt fp up : Int) (fs us wi : Bool) (fh uh pa qu me bo : ByteArray) (hme : me.size ≤ 3000)
    (w : World) (hm : Methods w) (hh : Pars w ra rl rb ro hs) :
    Calls Tryd.prog 14 #[.agg #[.int .i64 pt, .bool fs, .string fh, .int .i64 fp, .bool us, .string uh, .int .i64 up, .string pa, .string qu, .string me, .slice ra rl rc, .bool wi, .string bo]] w fun e w' => e = .returned (.bool (!sameO fs fh fp us uh up && !coversL wi (methodB me) (askedL hs) [])) ∧ Below w.heap.size w w' := by
  have HQ : Hid (BoxQ 39 w #[.int .i64 pt, .bool fs, .string fh, .int .i64 fp, .bool us, .string uh, .int .i64 up, .string pa, .string qu, .string me, .slice ra rl rc, .bool wi, .string bo] (w.alloc (.cells #[.int .i64 pt, .bool fs, .string fh, .int .i64 fp, .bool us, .string uh, .int .i64 up, .string pa, .string qu, .string me, .slice ra rl rc, .bool wi, .string bo] 39))) := BoxQ.new _ _ _
  obtain ⟨t, HT⟩ : ∃ t, Hid (coversL wi (methodB me) (askedL hs) [] = t) := ⟨_, rfl⟩
  have hcv := covers9_any hs hps ra rl rc rb ro hrl pt fp up fs us wi fh uh pa qu me bo hme [] none 0 0 0 0 (by decide) _ (hm.below HQ.out.bel (Nat.le_refl _)) (hh.below HQ.out.bel) (pss_nil _)
  rw [HT.out] at hcv
  rw [HT.out]
  obtain ⟨q, HE⟩ : ∃ q, Hid (sameO fs fh fp us uh up = q) := ⟨_, rfl⟩
  have eo := fun W => eqR9 fs us fh uh fp up q HE.out W
  rw [HE.out]
  have c0 := HQ.out.at 0 _ rfl
  have c1 := HQ.out.at 1 _ rfl
  have c2 := HQ.out.at 2 _ rfl
  have c3 := HQ.out.at 3 _ rfl
  have c4 := HQ.out.at 4 _ rfl
  have c5 := HQ.out.at 5 _ rfl
  have c6 := HQ.out.at 6 _ rfl
  have c7 := HQ.out.at 7 _ rfl
  have c8 := HQ.out.at 8 _ rfl
  have c9 := HQ.out.at 9 _ rfl
  have c10 := HQ.out.at 10 _ rfl
  have c11 := HQ.out.at 11 _ rfl
  have c12 := HQ.out.at 12 _ rfl
  clear hm hh hps
  go_enter Tryd.func14, Tryd.ntmps14
  cases q
  · go_wp2_with fail
    refine hcv.mono ?_
    rintro e w1 ⟨rfl, hb1⟩
    have HB1 : Hid (Below w.heap.size w w1) := HQ.out.inB hb1
    clear hb1 hcv c0 c1 c2 c3 c4 c5 c6 c7 c8 c9 c10 c11 c12
    go_wp2
    go_ret
    exact ⟨ret_bool (by simp), HB1.out⟩
  · go_wp2
    go_ret
    exact ⟨ret_bool (by simp), HQ.out.bel⟩
end Go.Proofs.YtihhabidfcgogaaDoor

/- Covers: whether a request need not be asked for first, by what a book has. -/
namespace Go.Proofs.YtihhabidfcgogaaDoor
open Go.RowKit
set_option linter.unusedVariables false
set_option linter.unusedSimpArgs false

def covB (r : RqV) (hs : List Par) (ps : List PsV) : Bool := coversL r.wi (methodB r.me) (askedL hs) ps
def needB (r : RqV) (hs : List Par) : Bool := !sameO r.fs r.fh r.fp r.us r.uh r.up && !covB r hs []
noncomputable def bookB (r : RqV) (hs : List Par) (now : Int) (xs : List PsV) : Bool := !needB r hs || covB r hs (xs.filter (forB r now))
/-- A request that can be asked with. -/
structure ReqOk (r : RqV) (hs : List Par) (rb ro : Nat) (W : World) : Prop where
  sm : Small8 hs
  rl : r.rl ≤ 60
  me : r.me.size ≤ 3000
  ps : Pars W r.ra r.rl rb ro hs
  ms : Methods W
theorem ReqOk.below {r : RqV} {hs : List Par} {rb ro : Nat} {w W W' : World} (h : ReqOk r hs rb ro W) (hb : Below W.heap.size W W') : ReqOk r hs rb ro W' := ⟨h.sm, h.rl, h.me, h.ps.below hb, h.ms.below hb (Nat.le_refl _)⟩
theorem needs_any (r : RqV) (hs : List Par) (rb ro : Nat) (w : World) (h : ReqOk r hs rb ro w) :
    Calls Tryd.prog 14 #[.agg #[.int .i64 r.pt, .bool r.fs, .string r.fh, .int .i64 r.fp, .bool r.us, .string r.uh, .int .i64 r.up, .string r.pa, .string r.qu, .string r.me, .slice r.ra r.rl r.rc, .bool r.wi, .string r.bo]] w fun e w' => e = .returned (.bool (needB r hs)) ∧ Below w.heap.size w w' :=
  needs9_any hs h.sm r.ra r.rl r.rc rb ro h.rl r.pt r.fp r.up r.fs r.us r.wi r.fh r.uh r.pa r.qu r.me r.bo h.me w h.ms h.ps
theorem covers_of (r : RqV) (hs : List Par) (rb ro : Nat) (ps : List PsV) (a0 : Option Addr) (len cap b off : Nat) (hlen : len ≤ 1000000) (w : World) (h : ReqOk r hs rb ro w) (hx : Pss w a0 len b off ps) :
    Calls Tryd.prog 36 #[.agg #[.int .i64 r.pt, .bool r.fs, .string r.fh, .int .i64 r.fp, .bool r.us, .string r.uh, .int .i64 r.up, .string r.pa, .string r.qu, .string r.me, .slice r.ra r.rl r.rc, .bool r.wi, .string r.bo], .slice a0 len cap] w fun e w' => e = .returned (.bool (covB r hs ps)) ∧ Below w.heap.size w w' :=
  covers9_any hs h.sm r.ra r.rl r.rc rb ro h.rl r.pt r.fp r.up r.fs r.us r.wi r.fh r.uh r.pa r.qu r.me r.bo h.me ps a0 len cap b off hlen w h.ms h.ps hx
/-- What Covers asks with. -/
structure CvS (w : World) (r : RqV) (hs : List Par) (rb ro B bk : Nat) (v : Value) (xs : List PsV) (W : World) : Prop where
  bel : Below w.heap.size w W
  box : BoxR W w.heap.size r
  bok : BookW W B bk v xs
  req : ReqOk r hs rb ro W
theorem CvS.step {w W W' : World} {r : RqV} {hs : List Par} {rb ro B bk : Nat} {v : Value} {xs : List PsV} (h : CvS w r hs rb ro B bk v xs W) (hb : Below W.heap.size W W') : CvS w r hs rb ro B bk v xs W' :=
  ⟨h.bel.trans (hb.mono h.bel.size), h.box.below hb, h.bok.below hb, ReqOk.below (w := w) h.req hb⟩
set_option maxRecDepth 100000 in
set_option maxHeartbeats 8000000 in
theorem bookCovers_any {B bk : Nat} {v : Value} {xs : List PsV} (w : World) (h : BookW w B bk v xs) (r : RqV) (hs : List Par) (rb ro : Nat) (hr : ReqOk r hs rb ro w) (now : Int) :
    Calls Tryd.prog 13 #[.pointer (some ⟨bk, 0, none⟩), .agg #[.int .i64 r.pt, .bool r.fs, .string r.fh, .int .i64 r.fp, .bool r.us, .string r.uh, .int .i64 r.up, .string r.pa, .string r.qu, .string r.me, .slice r.ra r.rl r.rc, .bool r.wi, .string r.bo], .int .i64 now] w fun e w' => e = .returned (.bool (bookB r hs now xs)) ∧ Below w.heap.size w w' := by
  have hb0 : Below w.heap.size w (w.alloc (.cells #[.int .i64 r.pt, .bool r.fs, .string r.fh, .int .i64 r.fp, .bool r.us, .string r.uh, .int .i64 r.up, .string r.pa, .string r.qu, .string r.me, .slice r.ra r.rl r.rc, .bool r.wi, .string r.bo] 39)) := (Below.refl _ _).alloc (Nat.le_refl _) _
  have HS : Hid (CvS w r hs rb ro B bk v xs (w.alloc (.cells #[.int .i64 r.pt, .bool r.fs, .string r.fh, .int .i64 r.fp, .bool r.us, .string r.uh, .int .i64 r.up, .string r.pa, .string r.qu, .string r.me, .slice r.ra r.rl r.rc, .bool r.wi, .string r.bo] 39)).drew) := CvS.step ⟨hb0, heap_alloc_new w _, h.below hb0, ReqOk.below (w := w) hr hb0⟩ (Below.refl _ _).drew
  clear h hr hb0
  have hcl : ∀ W, CvS w r hs rb ro B bk v xs W → W.cell? ⟨w.heap.size, 0, none⟩ = some (.int .i64 r.pt) ∧ W.cell? ⟨w.heap.size, 1, none⟩ = some (.bool r.fs) ∧ W.cell? ⟨w.heap.size, 2, none⟩ = some (.string r.fh) ∧ W.cell? ⟨w.heap.size, 3, none⟩ = some (.int .i64 r.fp) ∧ W.cell? ⟨w.heap.size, 4, none⟩ = some (.bool r.us) ∧ W.cell? ⟨w.heap.size, 5, none⟩ = some (.string r.uh) ∧ W.cell? ⟨w.heap.size, 6, none⟩ = some (.int .i64 r.up) ∧ W.cell? ⟨w.heap.size, 7, none⟩ = some (.string r.pa) ∧ W.cell? ⟨w.heap.size, 8, none⟩ = some (.string r.qu) ∧ W.cell? ⟨w.heap.size, 9, none⟩ = some (.string r.me) ∧ W.cell? ⟨w.heap.size, 10, none⟩ = some (.slice r.ra r.rl r.rc) ∧ W.cell? ⟨w.heap.size, 11, none⟩ = some (.bool r.wi) ∧ W.cell? ⟨w.heap.size, 12, none⟩ = some (.string r.bo) := fun W h => ⟨h.box.at 0 rfl, h.box.at 1 rfl, h.box.at 2 rfl, h.box.at 3 rfl, h.box.at 4 rfl, h.box.at 5 rfl, h.box.at 6 rfl, h.box.at 7 rfl, h.box.at 8 rfl, h.box.at 9 rfl, h.box.at 10 rfl, h.box.at 11 rfl, h.box.at 12 rfl⟩
  obtain ⟨nd, HND⟩ : ∃ nd, Hid (needB r hs = nd) := ⟨_, rfl⟩
  have HA : Hid (bookB r hs now xs = (!nd || covB r hs (xs.filter (forB r now)))) := by
    show _ = _
    rw [← HND.out]
    rfl
  rw [HA.out]
  go_enter Tryd.func13, Tryd.ntmps13
  go_upto_region 1 with fail
  generalize hW0 : w.alloc (.cells #[.int .i64 r.pt, .bool r.fs, .string r.fh, .int .i64 r.fp, .bool r.us, .string r.uh, .int .i64 r.up, .string r.pa, .string r.qu, .string r.me, .slice r.ra r.rl r.rc, .bool r.wi, .string r.bo] 39) = W0 at HS ⊢
  clear hW0
  refine wp_region_held_drew (S := fun W => CvS w r hs rb ro B bk v xs W) (by kernel_rfl) HS.out (fun hHeld => ?_)
  refine takeH (i := 0) (d := some 7) (v := ?_) rfl rfl (by kernel_rfl) (by kernel_rfl) (by kernel_rfl) (fun _ _ _ h => h) (by rfl) ?_ (by assumption) ?_
  rotate_left
  · intro w hSw; obtain ⟨q0, q1, q2, q3, q4, q5, q6, q7, q8, q9, q10, q11, q12⟩ := hcl _ hSw; go_simp; with_reducible rfl
  try simp only [Act.put, List.setIfInBounds_toArray, List.set_cons_zero, List.set_cons_succ]
  refine wpAnyH_ready (rs := [1]) (by kernel_rfl) (by simp) ?_
  refine AllReadyH.cons (by rfl) (fun K hKK => ?_) AllReadyH.nil
  go_simp
  have hnd := needs_any r hs rb ro _ HS.out.req
  rw [HND.out] at hnd
  refine (hnd).mono ?_
  rintro e w1 ⟨rfl, hb1⟩
  have HS1 : Hid (CvS w r hs rb ro B bk v xs w1) := HS.out.step hb1
  clear hb1 hnd
  go_wp2_with fail
  refine hKK.out _ _ HS1.out (fun hHeld => ?_)
  clear hKK K
  try simp only [Act.put, List.setIfInBounds_toArray, List.set_cons_zero, List.set_cons_succ]
  cases nd
  · skip
    refine takeH (i := 2) (d := some 9) (v := ?_) rfl rfl (by kernel_rfl) (by kernel_rfl) (by kernel_rfl) (fun _ _ _ h => h) (by rfl) ?_ (by assumption) ?_
    rotate_left
    · intro w hSw; obtain ⟨q0, q1, q2, q3, q4, q5, q6, q7, q8, q9, q10, q11, q12⟩ := hcl _ hSw; go_simp; with_reducible rfl
    try simp only [Act.put, List.setIfInBounds_toArray, List.set_cons_zero, List.set_cons_succ]
    refine takeH (i := 3) (d := some 10) (v := ?_) rfl rfl (by kernel_rfl) (by kernel_rfl) (by kernel_rfl) (fun _ _ _ h => h) (by rfl) ?_ (by assumption) ?_
    rotate_left
    · intro w hSw; obtain ⟨q0, q1, q2, q3, q4, q5, q6, q7, q8, q9, q10, q11, q12⟩ := hcl _ hSw; go_simp; with_reducible rfl
    try simp only [Act.put, List.setIfInBounds_toArray, List.set_cons_zero, List.set_cons_succ]
    refine skipH (i := 4) (d := some 11) rfl rfl (by kernel_rfl) (by kernel_rfl) (by kernel_rfl) (fun _ _ _ h => h) (by rfl) (by assumption) ?_
    try simp only [Act.put, List.setIfInBounds_toArray, List.set_cons_zero, List.set_cons_succ]
    refine skipH (i := 5) (d := some 12) rfl rfl (by kernel_rfl) (by kernel_rfl) (by kernel_rfl) (fun _ _ _ h => h) (by rfl) (by assumption) ?_
    try simp only [Act.put, List.setIfInBounds_toArray, List.set_cons_zero, List.set_cons_succ]
    refine skipH (i := 6) (d := some 13) rfl rfl (by kernel_rfl) (by kernel_rfl) (by kernel_rfl) (fun _ _ _ h => h) (by rfl) (by assumption) ?_
    try simp only [Act.put, List.setIfInBounds_toArray, List.set_cons_zero, List.set_cons_succ]
    refine skipH (i := 7) (d := some 14) rfl rfl (by kernel_rfl) (by kernel_rfl) (by kernel_rfl) (fun _ _ _ h => h) (by rfl) (by assumption) ?_
    try simp only [Act.put, List.setIfInBounds_toArray, List.set_cons_zero, List.set_cons_succ]
    refine skipH (i := 8) (d := some 15) rfl rfl (by kernel_rfl) (by kernel_rfl) (by kernel_rfl) (fun _ _ _ h => h) (by rfl) (by assumption) ?_
    try simp only [Act.put, List.setIfInBounds_toArray, List.set_cons_zero, List.set_cons_succ]
    refine skipH (i := 9) (d := some 16) rfl rfl (by kernel_rfl) (by kernel_rfl) (by kernel_rfl) (fun _ _ _ h => h) (by rfl) (by assumption) ?_
    try simp only [Act.put, List.setIfInBounds_toArray, List.set_cons_zero, List.set_cons_succ]
    refine takeH (i := 10) (d := some 17) (v := ?_) rfl rfl (by kernel_rfl) (by kernel_rfl) (by kernel_rfl) (fun _ _ _ h => h) (by rfl) ?_ (by assumption) ?_
    rotate_left
    · intro w hSw; obtain ⟨q0, q1, q2, q3, q4, q5, q6, q7, q8, q9, q10, q11, q12⟩ := hcl _ hSw; go_simp; with_reducible rfl
    try simp only [Act.put, List.setIfInBounds_toArray, List.set_cons_zero, List.set_cons_succ]
    refine takeH (i := 11) (d := some 6) (v := ?_) rfl rfl (by kernel_rfl) (by kernel_rfl) (by kernel_rfl) (fun _ _ _ h => h) (by rfl) ?_ (by assumption) ?_
    rotate_left
    · intro w hSw; obtain ⟨q0, q1, q2, q3, q4, q5, q6, q7, q8, q9, q10, q11, q12⟩ := hcl _ hSw; go_simp; with_reducible rfl
    try simp only [Act.put, List.setIfInBounds_toArray, List.set_cons_zero, List.set_cons_succ]
    refine wpAnyH_done (by kernel_rfl) ?_ _
    go_wp2
    go_ret
    exact ⟨ret_bool (by simp), HS1.out.bel⟩
  · skip
    refine takeH (i := 2) (d := some 9) (v := ?_) rfl rfl (by kernel_rfl) (by kernel_rfl) (by kernel_rfl) (fun _ _ _ h => h) (by rfl) ?_ (by assumption) ?_
    rotate_left
    · intro w hSw; obtain ⟨q0, q1, q2, q3, q4, q5, q6, q7, q8, q9, q10, q11, q12⟩ := hcl _ hSw; go_simp; with_reducible rfl
    try simp only [Act.put, List.setIfInBounds_toArray, List.set_cons_zero, List.set_cons_succ]
    refine takeH (i := 3) (d := some 10) (v := ?_) rfl rfl (by kernel_rfl) (by kernel_rfl) (by kernel_rfl) (fun _ _ _ h => h) (by rfl) ?_ (by assumption) ?_
    rotate_left
    · intro w hSw; obtain ⟨q0, q1, q2, q3, q4, q5, q6, q7, q8, q9, q10, q11, q12⟩ := hcl _ hSw; go_simp; with_reducible rfl
    try simp only [Act.put, List.setIfInBounds_toArray, List.set_cons_zero, List.set_cons_succ]
    refine takeH (i := 4) (d := some 11) (v := ?_) rfl rfl (by kernel_rfl) (by kernel_rfl) (by kernel_rfl) (fun _ _ _ h => h) (by rfl) ?_ (by assumption) ?_
    rotate_left
    · intro w hSw; obtain ⟨q0, q1, q2, q3, q4, q5, q6, q7, q8, q9, q10, q11, q12⟩ := hcl _ hSw; go_simp; with_reducible rfl
    try simp only [Act.put, List.setIfInBounds_toArray, List.set_cons_zero, List.set_cons_succ]
    refine takeH (i := 5) (d := some 12) (v := ?_) rfl rfl (by kernel_rfl) (by kernel_rfl) (by kernel_rfl) (fun _ _ _ h => h) (by rfl) ?_ (by assumption) ?_
    rotate_left
    · intro w hSw; obtain ⟨q0, q1, q2, q3, q4, q5, q6, q7, q8, q9, q10, q11, q12⟩ := hcl _ hSw; go_simp; with_reducible rfl
    try simp only [Act.put, List.setIfInBounds_toArray, List.set_cons_zero, List.set_cons_succ]
    refine takeH (i := 6) (d := some 13) (v := ?_) rfl rfl (by kernel_rfl) (by kernel_rfl) (by kernel_rfl) (fun _ _ _ h => h) (by rfl) ?_ (by assumption) ?_
    rotate_left
    · intro w hSw; obtain ⟨q0, q1, q2, q3, q4, q5, q6, q7, q8, q9, q10, q11, q12⟩ := hcl _ hSw; go_simp; with_reducible rfl
    try simp only [Act.put, List.setIfInBounds_toArray, List.set_cons_zero, List.set_cons_succ]
    refine takeH (i := 7) (d := some 14) (v := ?_) rfl rfl (by kernel_rfl) (by kernel_rfl) (by kernel_rfl) (fun _ _ _ h => h) (by rfl) ?_ (by assumption) ?_
    rotate_left
    · intro w hSw; obtain ⟨q0, q1, q2, q3, q4, q5, q6, q7, q8, q9, q10, q11, q12⟩ := hcl _ hSw; go_simp; with_reducible rfl
    try simp only [Act.put, List.setIfInBounds_toArray, List.set_cons_zero, List.set_cons_succ]
    refine wpAnyH_ready (rs := [8]) (by kernel_rfl) (by simp) ?_
    refine AllReadyH.cons (by rfl) (fun K hKK => ?_) AllReadyH.nil
    go_simp
    refine (for_any _ HS1.out.bok r now).mono ?_
    rintro e w2 ⟨⟨p2, n2, c2, rfl, H2⟩, hb2⟩
    have HS2 : Hid (CvS w r hs rb ro B bk v xs w2) := HS1.out.step hb2
    obtain ⟨a3, c3, g3, e3, hp3⟩ := OwnQ.pss H2.out.1
    rw [H2.out.2] at e3 hp3
    injection e3 with e4 e5 e6
    subst e4 e6
    have hn2 : n2 ≤ 32 := by have h1 := H2.out.2; have h2 := List.length_filter_le (forB r now) xs; have h3 := HS1.out.bok.few; omega
    have hcv := covers_of r hs rb ro _ p2 n2 c2 g3 0 (by omega) _ HS2.out.req hp3
    clear hb2 hp3 e5
    obtain ⟨cv, HCV⟩ : ∃ cv, Hid (covB r hs (xs.filter (forB r now)) = cv) := ⟨_, rfl⟩
    rw [HCV.out] at hcv
    go_wp2_with fail
    refine hKK.out _ _ HS2.out (fun hHeld => ?_)
    clear hKK K
    try simp only [Act.put, List.setIfInBounds_toArray, List.set_cons_zero, List.set_cons_succ]
    refine wpAnyH_ready (rs := [9]) (by kernel_rfl) (by simp) ?_
    refine AllReadyH.cons (by rfl) (fun K hKK => ?_) AllReadyH.nil
    go_simp
    refine (hcv).mono ?_
    rintro e w3 ⟨rfl, hb3⟩
    have HS3 : Hid (CvS w r hs rb ro B bk v xs w3) := HS2.out.step hb3
    clear hb3
    go_wp2_with fail
    refine hKK.out _ _ HS3.out (fun hHeld => ?_)
    clear hKK K
    try simp only [Act.put, List.setIfInBounds_toArray, List.set_cons_zero, List.set_cons_succ]
    refine takeH (i := 10) (d := some 17) (v := ?_) rfl rfl (by kernel_rfl) (by kernel_rfl) (by kernel_rfl) (fun _ _ _ h => h) (by rfl) ?_ (by assumption) ?_
    rotate_left
    · intro w hSw; obtain ⟨q0, q1, q2, q3, q4, q5, q6, q7, q8, q9, q10, q11, q12⟩ := hcl _ hSw; go_simp; with_reducible rfl
    try simp only [Act.put, List.setIfInBounds_toArray, List.set_cons_zero, List.set_cons_succ]
    refine takeH (i := 11) (d := some 6) (v := ?_) rfl rfl (by kernel_rfl) (by kernel_rfl) (by kernel_rfl) (fun _ _ _ h => h) (by rfl) ?_ (by assumption) ?_
    rotate_left
    · intro w hSw; obtain ⟨q0, q1, q2, q3, q4, q5, q6, q7, q8, q9, q10, q11, q12⟩ := hcl _ hSw; go_simp; with_reducible rfl
    try simp only [Act.put, List.setIfInBounds_toArray, List.set_cons_zero, List.set_cons_succ]
    refine wpAnyH_done (by kernel_rfl) ?_ _
    go_wp2
    go_ret
    exact ⟨ret_bool (by rw [HCV.out]; simp), HS3.out.bel⟩
end Go.Proofs.YtihhabidfcgogaaDoor

/- The passes of a row from its end on: the library's own iterator. -/
namespace Go.Proofs.YtihhabidfcgogaaDoor
open Go.RowKit
set_option linter.unusedVariables false
attribute [local go_sem] Oper.semAt_some

/-- What a round keeps: the box that holds the row, and the row. -/
def KeepsQ (B b : Nat) (W W' : World) : Prop := W.heap.size ≤ W'.heap.size ∧ W'.heap[B]? = W.heap[B]? ∧ W'.heap[b]? = W.heap[b]?
theorem keepsQ_t {B b : Nat} {X Y Z : World} (h : KeepsQ B b X Y) (k : KeepsQ B b Y Z) : KeepsQ B b X Z := ⟨Nat.le_trans h.1 k.1, k.2.1.trans h.2.1, k.2.2.trans h.2.2⟩
theorem keepsQ_b {B b n : Nat} (hB : B < n) (hb : b < n) (W : World) (l : Nat) (o o' : Obj) (hl : n ≤ l) (_ : W.heap[l]? = some o) (_ : o.isCells = false) (_ : o.isWalk = false) : KeepsQ B b W (W.putObj l o') :=
  ⟨by simp, World.putObj_heap_other (by omega), World.putObj_heap_other (by omega)⟩
theorem cell_block {W W' : World} {a : Addr} (h : W'.heap[a.block]? = W.heap[a.block]?) : W'.cell? a = W.cell? a := World.cell?_of_block h
theorem Pss.same {w w' : World} {a0 : Option Addr} {len b off : Nat} {ps : List PsV} (h : Pss w a0 len b off ps) (hs : w.heap.size ≤ w'.heap.size) (hb : w'.heap[b]? = w.heap[b]?) : Pss w' a0 len b off ps :=
  ⟨h.len_eq, fun h0 => ⟨(h.lies h0).1, Nat.lt_of_lt_of_le (h.lies h0).2 hs⟩, fun j v hj i u hi => (cell_block (a := ⟨b, off + j * 12 + i, none⟩) hb).trans (h.cells j v hj i u hi)⟩

theorem backward_any (v : Value) (a : Option Addr) (n c : Nat) (w : World) :
    Calls Tryd.prog 25 #[.slice a n c] w fun e w' => e = .returned (.func (.func 44) #[] #[.pointer (some ⟨w.heap.size, 0, none⟩)]) ∧ w' = w.alloc (.cells #[.slice a n c] 22) := by
  go_enter Tryd.func25, Tryd.ntmps25
  go_wp2
  go_ret
  exact ⟨rfl, rfl⟩
/-- A pass that any call may hand in. -/
abbrev GP := { p : PsV // GoodP p }
abbrev encQ (x : Nat × GP) : Array Value := #[.int .i64 (x.1 : Int), .agg #[.bool x.2.1.fs, .string x.2.1.fh, .int .i64 x.2.1.fp, .bool x.2.1.us, .string x.2.1.uh, .int .i64 x.2.1.up, .string x.2.1.pa, .string x.2.1.qu, .bool x.2.1.wi, .string x.2.1.me, .string x.2.1.he, .int .i64 x.2.1.un]]
set_option maxHeartbeats 4000000 in
set_option maxRecDepth 100000 in
theorem backward1_in (n : Nat) (hn : 1 ≤ n) (l Bs b off : Nat) (a0 : Option Addr) (len cap : Nat) (xs : List PsV) (hlen : len ≤ 1000) (J Jx : List (Nat × GP) → World → Prop)
    (hY : ∀ (pre : List (Nat × GP)) (x : Nat × GP) (W : World), J pre W → pre.length < len → YieldAt Fence.wide (n - 1) Tryd.prog l (encQ x) W fun e W' =>
      (e = .returned (.bool true) ∧ J (pre ++ [x]) W' ∧ KeepsQ Bs b W W') ∨ (e = .returned (.bool false) ∧ Jx (pre ++ [x]) W'))
    (W : World) (hBs : W.cell? ⟨Bs, 0, none⟩ = some (.slice a0 len cap)) (hx : Pss W a0 len b off xs) (hg : ∀ p ∈ xs, GoodP p) (h0 : J [] W) :
    CallsIn Fence.wide n Tryd.prog 44 #[.func (.yield l) #[] #[], .pointer (some ⟨Bs, 0, none⟩)] W fun e W' => (∃ v, e = .returned v) ∧
      ((∃ ys : List (Nat × GP), ys.map (fun y => y.2.1) = xs.reverse ∧ J ys W') ∨ (∃ pre : List (Nat × GP), pre.map (fun y => y.2.1) <+: xs.reverse ∧ Jx pre W')) := by
  have HX : Hid (Pss W a0 len b off xs) := hx
  have HL : Hid (xs.length = len) := hx.len_eq
  have HG : Hid (∀ p ∈ xs, GoodP p) := hg
  clear hx hg
  refine callsIn_of_wp Tryd.func44 rfl trivial ?_ rfl
  simp only [Tryd.ntmps44, List.size_toArray, List.length_cons, List.length_nil, Nat.reduceAdd, Nat.reduceSub, Array.replicate_succ, Array.replicate_zero, List.push_toArray, List.append_toArray, List.nil_append, List.cons_append]
  gi_wp2
  gi_loopw [3] (fun v wr => ∃ (pre : List (Nat × GP)) (k : Nat) (z : Int), v = .int .i64 z ∧ z = (k : Int) - 1 ∧ k ≤ len ∧ Hid (pre.map (fun y => y.2.1) = (xs.drop k).reverse ∧ pre.length = len - k) ∧ wr.cell? ⟨Bs, 0, none⟩ = some (.slice a0 len cap) ∧ Hid (Pss wr a0 len b off xs) ∧ J pre wr)
    (fun v _ => match v with | .int _ z => (z + 1).toNat | _ => 0)
  case atStart => exact ⟨[], len, (len : Int) - 1, rfl, rfl, Nat.le_refl _, ⟨by rw [List.drop_of_length_le (by rw [HL.out]; exact Nat.le_refl _)]; rfl, by simp⟩, hBs, HX, h0⟩
  case round =>
    obtain ⟨pre, k, z, rfl, hz, hk, HP, hc, HX2, hJ⟩ := hrel
    cases k with
    | zero =>
      have hneg : ¬ (0 : Int) ≤ z := by omega
      have HP2 : Hid (pre.map (fun y => y.2.1) = (xs.drop 0).reverse ∧ pre.length = len - 0) := HP
      clear hz HP
      gi_wp2
      go_end0
      exact ⟨⟨_, rfl⟩, .inl ⟨pre, HP2.out.1, hJ⟩⟩
    | succ j =>
      obtain rfl : z = (j : Int) := by omega
      obtain ⟨p, hp⟩ : ∃ p, xs[j]? = some p := ⟨xs[j]'(by have := HL.out; omega), List.getElem?_eq_getElem _⟩
      obtain ⟨a1, a2, a3, a4, a5, a6, a7, a8, a9, a10, a11, a12⟩ := HX2.out.all hp
      obtain ⟨rfl, hlt⟩ := HX2.out.lies (by omega)
      have hjl : (j : Int) < (len : Int) := by omega
      have hgp : GoodP p := HG.out p (List.mem_of_getElem? hp)
      have HS : Hid ((pre ++ [((j, ⟨p, hgp⟩) : Nat × GP)]).map (fun y => y.2.1) = (xs.drop j).reverse ∧ (pre ++ [((j, ⟨p, hgp⟩) : Nat × GP)]).length = len - j) := by
        obtain ⟨hj1, e⟩ := List.getElem?_eq_some_iff.1 hp
        refine ⟨?_, by rw [List.length_append, List.length_singleton, HP.out.2]; omega⟩
        rw [List.map_append, HP.out.1, List.drop_eq_getElem_cons hj1, e]
        simp
      obtain ⟨fn, tmps, assign, body, hy, hR⟩ := hY pre (j, ⟨p, hgp⟩) wr hJ (by rw [HP.out.2]; omega)
      dsimp only [encQ] at hy
      clear hp hz
      gi_wp2
      refine hR.mono ?_
      rintro e W3 (⟨rfl, hJ3, hk3⟩ | ⟨rfl, hJx3⟩)
      · have hc3 : W3.cell? ⟨Bs, 0, none⟩ = some (.slice (some ⟨b, off, none⟩) len cap) := (cell_block (a := ⟨Bs, 0, none⟩) hk3.2.1).trans hc
        have HX3 : Hid (Pss W3 (some ⟨b, off, none⟩) len b off xs) := HX2.out.same hk3.1 hk3.2.2
        gi_wp2
        go_roundw
        case rel => exact ⟨_, j, _, rfl, rfl, by omega, HS, hc3, HX3, hJ3⟩
        case measure => simp
      · gi_wp2
        refine bodyPost_ret (results_none rfl _ _ _) rfl ?_
        have hpf : (pre ++ [((j, ⟨p, hgp⟩) : Nat × GP)]).map (fun y => y.2.1) <+: xs.reverse := by
          rw [HS.out.1]
          exact List.reverse_prefix.2 (List.drop_suffix _ _)
        exact ⟨⟨_, rfl⟩, .inr ⟨_, hpf, hJx3⟩⟩
theorem backward_stops (n : Nat) (hn : 1 ≤ n) (Bs b off : Nat) (a0 : Option Addr) (len cap : Nat) (xs : List PsV) (hlen : len ≤ 1000) (w : World) (hs1 : Bs < w.heap.size) (hBs : w.cell? ⟨Bs, 0, none⟩ = some (.slice a0 len cap)) (hx : Pss w a0 len b off xs) (hg : ∀ p ∈ xs, GoodP p) :
    SeqStopsK Fence.wide n Tryd.prog 44 #[.pointer (some ⟨Bs, 0, none⟩)] encQ (KeepsQ Bs b) (fun ys : List (Nat × GP) => ys.map (fun y => y.2.1) = xs.reverse) (fun pre => pre.map (fun y => y.2.1) <+: xs.reverse) len w := fun l J Jx W hW _ _ hY h0 =>
  backward1_in n hn l Bs b off a0 len cap xs hlen J Jx hY W ((hW.cell (p := ⟨Bs, 0, none⟩) hs1).trans hBs) (hx.below hW) hg h0
end Go.Proofs.YtihhabidfcgogaaDoor

/- A row of passes turned around, by the library's own function. -/
namespace Go.Proofs.YtihhabidfcgogaaDoor
open Go.RowKit
set_option linter.unusedVariables false
set_option linter.unusedSimpArgs false

/-- The first k, and the last k, have changed places. -/
def RevQ (cs ds : List PsV) (n k : Nat) : Prop := ds.length = n ∧ ∀ m, m < n → ds[m]? = if m < k ∨ n < m + 1 + k then cs[n - 1 - m]? else cs[m]?
theorem revQ_zero (cs : List PsV) : RevQ cs cs cs.length 0 := ⟨rfl, fun m hm => by rw [if_neg (by omega)]⟩
theorem revQ_step {cs ds : List PsV} {n k : Nat} {ci cj : PsV} (h : RevQ cs ds n k) (hk : 2 * k + 1 < n) (hi : ds[k]? = some ci) (hj : ds[n - 1 - k]? = some cj) : RevQ cs ((ds.set k cj).set (n - 1 - k) ci) n (k + 1) := by
  have h1 := h.2 k (by omega)
  rw [if_neg (by omega), hi] at h1
  have h2 := h.2 (n - 1 - k) (by omega)
  rw [if_neg (by omega), hj] at h2
  refine ⟨by simp [h.1], fun m hm => ?_⟩
  rw [List.getElem?_set, List.getElem?_set, List.length_set, h.1]
  by_cases e1 : n - 1 - k = m
  · rw [if_pos e1, if_pos (by omega), if_pos (by omega), h1]
    congr 1
    omega
  · rw [if_neg e1]
    by_cases e2 : k = m
    · rw [if_pos e2, if_pos (by omega), if_pos (by omega), h2]
      congr 1
      omega
    · rw [if_neg e2, h.2 m hm]
      by_cases e3 : m < k ∨ n < m + 1 + k
      · rw [if_pos e3, if_pos (by omega)]
      · rw [if_neg e3, if_neg (by omega)]
theorem revQ_end {cs ds : List PsV} {n k : Nat} (hc : cs.length = n) (h : RevQ cs ds n k) (hk : n ≤ 2 * k + 1) : ds = cs.reverse := by
  refine List.ext_getElem? fun m => ?_
  by_cases hm : m < n
  · rw [List.getElem?_reverse (by omega), hc, h.2 m hm]
    by_cases e : m < k ∨ n < m + 1 + k
    · rw [if_pos e]
    · rw [if_neg e]
      congr 1
      omega
  · rw [List.getElem?_eq_none (by rw [h.1]; omega), List.getElem?_eq_none (by simp; omega)]
theorem OwnQ.cells12 {w : World} {B g n cap : Nat} {ds : List PsV} (h : OwnQ w B (.slice (some ⟨g, 0, none⟩) n cap) ds) {j : Nat} {v : PsV} (hj : ds[j]? = some v) :
    w.cell? ⟨g, j * 12, none⟩ = some (.bool v.fs) ∧ w.cell? ⟨g, j * 12 + 1, none⟩ = some (.string v.fh) ∧ w.cell? ⟨g, j * 12 + 2, none⟩ = some (.int .i64 v.fp) ∧ w.cell? ⟨g, j * 12 + 3, none⟩ = some (.bool v.us) ∧ w.cell? ⟨g, j * 12 + 4, none⟩ = some (.string v.uh) ∧ w.cell? ⟨g, j * 12 + 5, none⟩ = some (.int .i64 v.up) ∧ w.cell? ⟨g, j * 12 + 6, none⟩ = some (.string v.pa) ∧ w.cell? ⟨g, j * 12 + 7, none⟩ = some (.string v.qu) ∧ w.cell? ⟨g, j * 12 + 8, none⟩ = some (.bool v.wi) ∧ w.cell? ⟨g, j * 12 + 9, none⟩ = some (.string v.me) ∧ w.cell? ⟨g, j * 12 + 10, none⟩ = some (.string v.he) ∧ w.cell? ⟨g, j * 12 + 11, none⟩ = some (.int .i64 v.un) :=
  have hv : (ds.map PsV.vals)[j]? = some v.vals := by rw [List.getElem?_map, hj]; rfl
  ⟨OwnK.cell h hv (i := 0) rfl, OwnK.cell h hv (i := 1) rfl, OwnK.cell h hv (i := 2) rfl, OwnK.cell h hv (i := 3) rfl, OwnK.cell h hv (i := 4) rfl, OwnK.cell h hv (i := 5) rfl, OwnK.cell h hv (i := 6) rfl, OwnK.cell h hv (i := 7) rfl, OwnK.cell h hv (i := 8) rfl, OwnK.cell h hv (i := 9) rfl, OwnK.cell h hv (i := 10) rfl, OwnK.cell h hv (i := 11) rfl⟩
theorem OwnQ.set {w : World} {B g n cap : Nat} {ds : List PsV} (h : OwnQ w B (.slice (some ⟨g, 0, none⟩) n cap) ds) (i : Nat) (x : PsV) (hi : i < ds.length) : OwnQ (w.setCells g (i * 12) x.vals) B (.slice (some ⟨g, 0, none⟩) n cap) (ds.set i x) := by
  have := OwnK.set (show OwnK 12 35 w B (.slice (some ⟨g, 0, none⟩) n cap) (ds.map PsV.vals) from h) i x.vals rfl (vals_one x) (by rw [List.length_map]; exact hi)
  rw [← List.map_set] at this
  exact this
theorem OwnQ.len {w : World} {B g n cap : Nat} {ds : List PsV} (h : OwnQ w B (.slice (some ⟨g, 0, none⟩) n cap) ds) : n = ds.length ∧ ds.length ≤ cap := by
  rcases OwnK.forms (show OwnK 12 35 w B (.slice (some ⟨g, 0, none⟩) n cap) (ds.map PsV.vals) from h) with ⟨e, _⟩ | ⟨g', cap', e, _, _, h1, _⟩
  · cases e
  · injection e with e1 e2 e3
    rw [List.length_map] at e2 h1
    omega
theorem OwnQ.stores {w : World} {B g n cap : Nat} {ds : List PsV} (h : OwnQ w B (.slice (some ⟨g, 0, none⟩) n cap) ds) (i : Nat) (x : PsV) (hi : i < ds.length) : Sem.run Tryd.prog (storeCells ⟨g, i * 12, none⟩ x.vals 0) w = .ok () (w.setCells g (i * 12) x.vals) := by
  have hk : OwnK 12 35 w B (.slice (some ⟨g, 0, none⟩) n cap) (ds.map PsV.vals) := h
  have hl := h.len
  have := run_storeCells_cells (P := Tryd.prog) g (i * 12) x.vals 0 w (fun j hj => hk.there _ (by rw [vals_len] at hj; omega)) (fun j hj => hk.frozen _) (vals_one x)
  rw [Nat.add_zero] at this
  exact this
set_option maxRecDepth 100000 in
set_option maxHeartbeats 4000000 in
theorem reverseQ_any (cs : List PsV) (B g n cap : Nat) (hl : cs.length = n) (hn : n ≤ 1000) (w : World) (hx : OwnQ w B (.slice (some ⟨g, 0, none⟩) n cap) cs) :
    Calls Tryd.prog 29 #[.slice (some ⟨g, 0, none⟩) n cap] w fun e w' => e = .returned (.tuple #[]) ∧ Hid (OwnQ w' B (.slice (some ⟨g, 0, none⟩) n cap) cs.reverse ∧ w.grownBy w' (some g)) := by
  have HX : Hid (OwnQ w B (.slice (some ⟨g, 0, none⟩) n cap) cs) := hx
  have HL : Hid (cs.length = n) := hl
  clear hx hl
  go_enter Tryd.func29, Tryd.ntmps29
  go_wp2
  go_loopw [2, 3] (fun i j wr => ∃ (k : Nat) (jz : Int) (ds : List PsV), k ≤ n ∧ i = .int .i64 k ∧ j = .int .i64 jz ∧ jz = (n : Int) - 1 - (k : Int) ∧ Hid (RevQ cs ds n k ∧ OwnQ wr B (.slice (some ⟨g, 0, none⟩) n cap) ds ∧ w.grownBy wr (some g))) (fun i _ _ => n - (intOf i).toNat)
  case atStart => exact ⟨0, _, cs, Nat.zero_le _, rfl, rfl, by omega, ⟨by rw [← HL.out]; exact revQ_zero cs, HX.out, World.grownBy.refl _ _⟩⟩
  case round =>
    obtain ⟨k, jz, ds, hk, rfl, rfl, hjz, HI⟩ := hrel
    by_cases hlt : (k : Int) < jz
    · obtain ⟨jn, hjn⟩ : ∃ jn : Nat, jz = jn := ⟨jz.toNat, by omega⟩
      subst hjn
      have hkn : 2 * k + 1 < n := by omega
      have hjk : jn = n - 1 - k := by omega
      have hdl : ds.length = n := HI.out.1.1
      obtain ⟨ci, hci⟩ : ∃ c, ds[k]? = some c := ⟨ds[k]'(by omega), List.getElem?_eq_getElem (by omega)⟩
      obtain ⟨cj, hcj⟩ : ∃ c, ds[jn]? = some c := ⟨ds[jn]'(by omega), List.getElem?_eq_getElem (by omega)⟩
      have HST : Hid (RevQ cs ((ds.set k cj).set jn ci) n (k + 1)) := by
        have := revQ_step HI.out.1 hkn hci (by rw [← hjk]; exact hcj)
        rw [← hjk] at this
        exact this
      have HD : Hid (OwnQ wr.drew B (.slice (some ⟨g, 0, none⟩) n cap) ds) := OwnK.drewN HI.out.2.1 1
      obtain ⟨a0, a1, a2, a3, a4, a5, a6, a7, a8, a9, a10, a11⟩ := HD.out.cells12 hci
      obtain ⟨b0, b1, b2, b3, b4, b5, b6, b7, b8, b9, b10, b11⟩ := HD.out.cells12 hcj
      have hst1 := HD.out.stores k cj (by omega)
      have HD1 : Hid (OwnQ (wr.drew.setCells g (k * 12) cj.vals) B (.slice (some ⟨g, 0, none⟩) n cap) (ds.set k cj)) := HD.out.set k cj (by omega)
      have hst2 := HD1.out.stores jn ci (by rw [List.length_set]; omega)
      have HD2 : Hid (OwnQ ((wr.drew.setCells g (k * 12) cj.vals).setCells g (jn * 12) ci.vals) B (.slice (some ⟨g, 0, none⟩) n cap) ((ds.set k cj).set jn ci)) := HD1.out.set jn ci (by rw [List.length_set]; omega)
      have hdr : wr.grownBy wr.drew (some g) := ⟨rfl, rfl, rfl, Nat.le_refl _, fun _ _ _ => rfl⟩
      have hg1 := grown_setCells wr.drew g (k * 12) cj.vals
      have hg2 := grown_setCells (wr.drew.setCells g (k * 12) cj.vals) g (jn * 12) ci.vals
      have HGW : Hid (w.grownBy ((wr.drew.setCells g (k * 12) cj.vals).setCells g (jn * 12) ci.vals) (some g)) := gtrans (gtrans (gtrans HI.out.2.2 hdr) hg1) hg2
      have hkL : (k : Int) < (n : Int) := by omega
      have hjL : (jn : Int) < (n : Int) := by omega
      have HJZ : Hid ((jn : Int) = (n : Int) - 1 - (k : Int)) := hjz
      clear hci hcj hdl hjk hjz hkn HD HD1 hdr hg1 hg2
      go_upto_region 3 with fail
      refine wp_region_held_drew (S := fun _ => True) (by kernel_rfl) trivial (fun hHeld => ?_)
      refine takeH (i := 0) (d := some 14) (v := ?_) rfl rfl (by kernel_rfl) (by kernel_rfl) (by kernel_rfl) (fun _ _ _ h => h) (by rfl) ?_ trivial ?_
      rotate_left
      · intro w _; go_simp; with_reducible rfl
      try simp only [Act.put, List.setIfInBounds_toArray, List.set_cons_zero, List.set_cons_succ]
      refine takeH (i := 1) (d := some 15) (v := ?_) rfl rfl (by kernel_rfl) (by kernel_rfl) (by kernel_rfl) (fun _ _ _ h => h) (by rfl) ?_ trivial ?_
      rotate_left
      · intro w _; go_simp; with_reducible rfl
      try simp only [Act.put, List.setIfInBounds_toArray, List.set_cons_zero, List.set_cons_succ]
      refine takeH (i := 2) (d := some 16) (v := ?_) rfl rfl (by kernel_rfl) (by kernel_rfl) (by kernel_rfl) (fun _ _ _ h => h) (by rfl) ?_ trivial ?_
      rotate_left
      · intro w _; go_simp; with_reducible rfl
      try simp only [Act.put, List.setIfInBounds_toArray, List.set_cons_zero, List.set_cons_succ]
      refine takeH (i := 3) (d := some 17) (v := ?_) rfl rfl (by kernel_rfl) (by kernel_rfl) (by kernel_rfl) (fun _ _ _ h => h) (by rfl) ?_ trivial ?_
      rotate_left
      · intro w _; go_simp; with_reducible rfl
      try simp only [Act.put, List.setIfInBounds_toArray, List.set_cons_zero, List.set_cons_succ]
      refine takeH (i := 4) (d := some 18) (v := ?_) rfl rfl (by kernel_rfl) (by kernel_rfl) (by kernel_rfl) (fun _ _ _ h => h) (by rfl) ?_ trivial ?_
      rotate_left
      · intro w _; go_simp; with_reducible rfl
      try simp only [Act.put, List.setIfInBounds_toArray, List.set_cons_zero, List.set_cons_succ]
      refine takeH (i := 5) (d := some 19) (v := ?_) rfl rfl (by kernel_rfl) (by kernel_rfl) (by kernel_rfl) (fun _ _ _ h => h) (by rfl) ?_ trivial ?_
      rotate_left
      · intro w _; go_simp; with_reducible rfl
      try simp only [Act.put, List.setIfInBounds_toArray, List.set_cons_zero, List.set_cons_succ]
      refine takeH (i := 8) (d := some 22) (v := ?_) rfl rfl (by kernel_rfl) (by kernel_rfl) (by kernel_rfl) (fun _ _ _ h => h) (by rfl) ?_ trivial ?_
      rotate_left
      · intro w _; go_simp; with_reducible rfl
      try simp only [Act.put, List.setIfInBounds_toArray, List.set_cons_zero, List.set_cons_succ]
      refine takeH (i := 9) (d := some 23) (v := ?_) rfl rfl (by kernel_rfl) (by kernel_rfl) (by kernel_rfl) (fun _ _ _ h => h) (by rfl) ?_ trivial ?_
      rotate_left
      · intro w _; go_simp; with_reducible rfl
      try simp only [Act.put, List.setIfInBounds_toArray, List.set_cons_zero, List.set_cons_succ]
      refine takeH (i := 6) (d := some 20) (v := ?_) rfl rfl (by kernel_rfl) (by kernel_rfl) (by kernel_rfl) (fun _ _ _ h => h) (by rfl) ?_ trivial ?_
      rotate_left
      · intro w _; go_simp; with_reducible rfl
      try simp only [Act.put, List.setIfInBounds_toArray, List.set_cons_zero, List.set_cons_succ]
      refine takeH (i := 10) (d := some 24) (v := ?_) rfl rfl (by kernel_rfl) (by kernel_rfl) (by kernel_rfl) (fun _ _ _ h => h) (by rfl) ?_ trivial ?_
      rotate_left
      · intro w _; go_simp; with_reducible rfl
      try simp only [Act.put, List.setIfInBounds_toArray, List.set_cons_zero, List.set_cons_succ]
      refine wpAnyH_ready (rs := [7, 11]) (by kernel_rfl) (by simp) ?_
      refine AllReadyH.cons (by rfl) (fun K hKK => ?_) (AllReadyH.cons (by rfl) (fun K hKK => ?_) AllReadyH.nil)
      · skip
        go_simp
        rw [show (#[.bool cj.fs, .string cj.fh, .int .i64 cj.fp, .bool cj.us, .string cj.uh, .int .i64 cj.up, .string cj.pa, .string cj.qu, .bool cj.wi, .string cj.me, .string cj.he, .int .i64 cj.un] : Array Value) = cj.vals.toArray from rfl]
        refine hKK.out _ _ trivial (fun hHeld => ?_)
        clear hKK K
        try simp only [Act.put, List.setIfInBounds_toArray, List.set_cons_zero, List.set_cons_succ]
        refine wpAnyH_ready (rs := [11]) (by kernel_rfl) (by simp) ?_
        refine AllReadyH.cons (by rfl) (fun K hKK => ?_) AllReadyH.nil
        go_simp
        rw [show (#[.bool ci.fs, .string ci.fh, .int .i64 ci.fp, .bool ci.us, .string ci.uh, .int .i64 ci.up, .string ci.pa, .string ci.qu, .bool ci.wi, .string ci.me, .string ci.he, .int .i64 ci.un] : Array Value) = ci.vals.toArray from rfl]
        refine hKK.out _ _ trivial (fun hHeld => ?_)
        clear hKK K
        try simp only [Act.put, List.setIfInBounds_toArray, List.set_cons_zero, List.set_cons_succ]
        refine takeH (i := 12) (d := some 26) (v := ?_) rfl rfl (by kernel_rfl) (by kernel_rfl) (by kernel_rfl) (fun _ _ _ h => h) (by rfl) ?_ trivial ?_
        rotate_left
        · intro w _; go_simp; with_reducible rfl
        try simp only [Act.put, List.setIfInBounds_toArray, List.set_cons_zero, List.set_cons_succ]
        refine wpAnyH_ready (rs := [13]) (by kernel_rfl) (by simp) ?_
        refine AllReadyH.cons (by rfl) (fun K hKK => ?_) AllReadyH.nil
        go_simp
        refine hKK.out _ _ trivial (fun hHeld => ?_)
        clear hKK K hst1
        try simp only [Act.put, List.setIfInBounds_toArray, List.set_cons_zero, List.set_cons_succ]
        refine takeH (i := 14) (d := some 27) (v := ?_) rfl rfl (by kernel_rfl) (by kernel_rfl) (by kernel_rfl) (fun _ _ _ h => h) (by rfl) ?_ trivial ?_
        rotate_left
        · intro w _; go_simp; with_reducible rfl
        try simp only [Act.put, List.setIfInBounds_toArray, List.set_cons_zero, List.set_cons_succ]
        refine wpAnyH_ready (rs := [15]) (by kernel_rfl) (by simp) ?_
        refine AllReadyH.cons (by rfl) (fun K hKK => ?_) AllReadyH.nil
        go_simp
        refine hKK.out _ _ trivial (fun hHeld => ?_)
        clear hKK K hst2
        try simp only [Act.put, List.setIfInBounds_toArray, List.set_cons_zero, List.set_cons_succ]
        refine wpAnyH_done (by kernel_rfl) ?_ _
        clear a0 a1 a2 a3 a4 a5 a6 a7 a8 a9 a10 a11 b0 b1 b2 b3 b4 b5 b6 b7 b8 b9 b10 b11
        generalize (wr.drew.setCells g (k * 12) cj.vals).setCells g (jn * 12) ci.vals = W9 at HD2 HGW ⊢
        go_wp2
        go_roundw
        case rel => exact ⟨k + 1, _, _, by omega, by go_num, rfl, by have := HJZ.out; push_cast; omega, ⟨HST.out, HD2.out, HGW.out⟩⟩
        case measure => simp [intOf]; omega
      · skip
        go_simp
        rw [show (#[.bool ci.fs, .string ci.fh, .int .i64 ci.fp, .bool ci.us, .string ci.uh, .int .i64 ci.up, .string ci.pa, .string ci.qu, .bool ci.wi, .string ci.me, .string ci.he, .int .i64 ci.un] : Array Value) = ci.vals.toArray from rfl]
        refine hKK.out _ _ trivial (fun hHeld => ?_)
        clear hKK K
        try simp only [Act.put, List.setIfInBounds_toArray, List.set_cons_zero, List.set_cons_succ]
        refine wpAnyH_ready (rs := [7]) (by kernel_rfl) (by simp) ?_
        refine AllReadyH.cons (by rfl) (fun K hKK => ?_) AllReadyH.nil
        go_simp
        rw [show (#[.bool cj.fs, .string cj.fh, .int .i64 cj.fp, .bool cj.us, .string cj.uh, .int .i64 cj.up, .string cj.pa, .string cj.qu, .bool cj.wi, .string cj.me, .string cj.he, .int .i64 cj.un] : Array Value) = cj.vals.toArray from rfl]
        refine hKK.out _ _ trivial (fun hHeld => ?_)
        clear hKK K
        try simp only [Act.put, List.setIfInBounds_toArray, List.set_cons_zero, List.set_cons_succ]
        refine takeH (i := 12) (d := some 26) (v := ?_) rfl rfl (by kernel_rfl) (by kernel_rfl) (by kernel_rfl) (fun _ _ _ h => h) (by rfl) ?_ trivial ?_
        rotate_left
        · intro w _; go_simp; with_reducible rfl
        try simp only [Act.put, List.setIfInBounds_toArray, List.set_cons_zero, List.set_cons_succ]
        refine wpAnyH_ready (rs := [13]) (by kernel_rfl) (by simp) ?_
        refine AllReadyH.cons (by rfl) (fun K hKK => ?_) AllReadyH.nil
        go_simp
        refine hKK.out _ _ trivial (fun hHeld => ?_)
        clear hKK K hst1
        try simp only [Act.put, List.setIfInBounds_toArray, List.set_cons_zero, List.set_cons_succ]
        refine takeH (i := 14) (d := some 27) (v := ?_) rfl rfl (by kernel_rfl) (by kernel_rfl) (by kernel_rfl) (fun _ _ _ h => h) (by rfl) ?_ trivial ?_
        rotate_left
        · intro w _; go_simp; with_reducible rfl
        try simp only [Act.put, List.setIfInBounds_toArray, List.set_cons_zero, List.set_cons_succ]
        refine wpAnyH_ready (rs := [15]) (by kernel_rfl) (by simp) ?_
        refine AllReadyH.cons (by rfl) (fun K hKK => ?_) AllReadyH.nil
        go_simp
        refine hKK.out _ _ trivial (fun hHeld => ?_)
        clear hKK K hst2
        try simp only [Act.put, List.setIfInBounds_toArray, List.set_cons_zero, List.set_cons_succ]
        refine wpAnyH_done (by kernel_rfl) ?_ _
        clear a0 a1 a2 a3 a4 a5 a6 a7 a8 a9 a10 a11 b0 b1 b2 b3 b4 b5 b6 b7 b8 b9 b10 b11
        generalize (wr.drew.setCells g (k * 12) cj.vals).setCells g (jn * 12) ci.vals = W9 at HD2 HGW ⊢
        go_wp2
        go_roundw
        case rel => exact ⟨k + 1, _, _, by omega, by go_num, rfl, by have := HJZ.out; push_cast; omega, ⟨HST.out, HD2.out, HGW.out⟩⟩
        case measure => simp [intOf]; omega
    · have HE : Hid (OwnQ wr B (.slice (some ⟨g, 0, none⟩) n cap) cs.reverse ∧ w.grownBy wr (some g)) := ⟨by rw [← revQ_end HL.out HI.out.1 (by omega)]; exact HI.out.2.1, HI.out.2.2⟩
      clear HI
      go_wp2
      go_end0
      exact ⟨rfl, HE⟩
set_option maxRecDepth 100000 in
set_option maxHeartbeats 1000000 in
theorem reverseQ_nil (w : World) : Calls Tryd.prog 29 #[.slice none 0 0] w fun e w' => e = .returned (.tuple #[]) ∧ w' = w := by
  go_enter Tryd.func29, Tryd.ntmps29
  go_wp2
  refine wp_loop_rounds 1 ?_
  rw [rounds_succ]
  go_wp2
  go_end0
  exact ⟨rfl, rfl⟩
theorem reverseQ_own (cs : List PsV) (B : Nat) (v : Value) (hn : cs.length ≤ 1000) (w : World) (hB : B ≤ w.heap.size) (hx : OwnQ w B v cs) :
    Calls Tryd.prog 29 #[v] w fun e w' => e = .returned (.tuple #[]) ∧ Hid (OwnQ w' B v cs.reverse ∧ Below B w w') := by
  rcases OwnK.forms (show OwnK 12 35 w B v (cs.map PsV.vals) from hx) with ⟨rfl, h0⟩ | ⟨g, cap, rfl, hBg, _, _, _⟩
  · obtain rfl : cs = [] := by simpa using h0
    refine (reverseQ_nil w).mono ?_
    rintro e w' ⟨rfl, rfl⟩
    exact ⟨rfl, hx, Below.refl _ _⟩
  · refine (reverseQ_any cs B g _ cap (by rw [List.length_map]) (by rw [List.length_map]; exact hn) w hx).mono ?_
    rintro e w' ⟨rfl, h⟩
    exact ⟨rfl, h.out.1, ⟨h.out.2.os, h.out.2.tape, h.out.2.output, h.out.2.size, fun i hi => h.out.2.block i (by omega) (by intro e; injection e; omega)⟩⟩
end Go.Proofs.YtihhabidfcgogaaDoor

/- A drawn region within a round of a loop over a function: by the plain laws. -/
namespace Go.Proofs.YtihhabidfcgogaaDoor
open Go.RowKit

section
variable {P : Program} {ops : Array Oper} {Q : Exit → Act → World → Prop} {l n : Nat}
theorem opsIn_round (hd : ∀ o ∈ ops.toList, ∀ c, o.op ≠ .defer c) (hQ : ∀ a w, ¬ Q .outgrown a w) :
    ∀ (js : List Nat) (a : Act) (w : World), wpOps P ops Q js a w → wpOpsIn (Fence.wide.inRound l) n P ops Q js a w := by
  intro js
  induction js with
  | nil => exact fun a w h => h
  | cons i rest ih =>
    intro a w h
    unfold wpOps at h
    unfold wpOpsIn
    cases ho : ops[i]? with
    | none => simp only [ho] at h ⊢; exact ih a w h
    | some o =>
      simp only [ho] at h ⊢
      by_cases hw : Region.wanted o (yielded ops a.tmps) = true
      · rw [if_pos hw] at h ⊢
        rcases h with h | ⟨_, a0, w0, h0⟩
        · refine ⟨fun _ _ => trivial, ?_⟩
          rw [Oper.semAt_eq _ _ _ (hd o (Array.mem_toList_iff.2 (Array.mem_of_getElem? ho)))]
          unfold Oper.wp at h
          generalize (execOp a.eval o).run P w = r at h ⊢
          cases r with
          | ok x w' =>
            cases x with
            | value v => exact ih _ _ h
            | skip => exact ih _ _ h
            | defer d => exact ih _ _ h
            | enter f args =>
              refine ⟨fun hh => by simp [Fence.wide] at hh, CallsIn.inRound l (callsIn_wide.2 ?_)⟩
              refine Calls.mono h ?_
              intro e w2 he
              cases e with
              | returned v => exact ih _ _ he
              | panicked c => exact he
              | outgrown => exact he
            | row row args =>
              refine ⟨fun hh => by simp [Fence.wide] at hh, fun c cs _ => ?_⟩
              obtain ⟨v, w2, r2, s2⟩ := h c cs
              exact ⟨v, w2, ih _ _ r2, stepsIn_wide.2 s2⟩
            | _ => exact absurd h (by simp [Oper.upon])
          | halt s w' =>
            cases s with
            | panic v => exact h
            | _ => exact absurd h (by simp [Oper.upon])
        · exact absurd h0 (hQ a0 w0)
      · rw [if_neg hw] at h ⊢
        exact ⟨fun _ _ => trivial, ih _ _ h⟩
theorem wpIn_held_round {S : World → Prop} {id : Nat} {a : Act} {w : World} (hm : P.follows .mixedOrders = true) (hd : ∀ o ∈ ops.toList, ∀ c, o.op ≠ .defer c) (hQ : ∀ a w, ¬ Q .outgrown a w)
    (hS : S w.drew) (h : S w.drew → wpAnyH P .any ops Q S ops.size (Array.replicate ops.size false) a w.drew) : (Code.region id ops true).wpIn (Fence.wide.inRound l) n P Q a w :=
  wpIn_region_draw fun t => by
    simp only [Region.schedule, hm, Bool.true_or, if_true]
    exact opsIn_round hd hQ _ _ _ (wpAny_sound ops.size t _ a _ (wpAny_of_held _ _ _ _ (h hS)))
end
end Go.Proofs.YtihhabidfcgogaaDoor

/- Put's loop: what holds between two rounds. -/
namespace Go.Proofs.YtihhabidfcgogaaDoor
open Go.RowKit
set_option linter.unusedVariables false

/-- How often something for the same came. -/
noncomputable def cntP (l : List PsV) (k : PsV) : Nat := (l.filter (fun p => @decide (p.key = k) (Classical.propDecidable _))).length
theorem cntP_nil (k : PsV) : cntP [] k = 0 := rfl
theorem cntP_snoc (l : List PsV) (x k : PsV) : cntP (l ++ [x]) k = if k = x.key then cntP l k + 1 else cntP l k := by
  unfold cntP
  rw [List.filter_append, List.length_append]
  by_cases h : k = x.key
  · subst h
    simp
  · have : ¬ x.key = k := fun e => h e.symm
    simp [h, this]
theorem cntP_zero {l : List PsV} {k : PsV} : cntP l k = 0 ↔ k ∉ l.map PsV.key := by
  unfold cntP
  rw [List.length_eq_zero_iff, List.filter_eq_nil_iff]
  simp only [decide_eq_true_eq, List.mem_map, not_exists, not_and]
theorem cntP_le (l : List PsV) (k : PsV) : cntP l k ≤ l.length := List.length_filter_le _ _
/-- Put's own things while it loops, but for its map: n is the world in which the call began, m that in which the loop did. -/
structure PutB (w : World) (m : Nat) (now : Int) (rv : Value) (ps : List PsV) (W : World) : Prop where
  bel : Below w.heap.size w W
  siz : m ≤ W.heap.size
  cnow : W.heap[w.heap.size]? = some (.cells #[.int .i64 now] 3 (0, 0))
  box : W.heap[w.heap.size + 1]? = some (.cells #[rv] 22 (0, 0))
  mp : W.heap[w.heap.size + 3]? = some (.cells #[.map (some (w.heap.size + 2))] 54 (0, 0))
  row : OwnQ W m rv ps
  few : ps.length ≤ 32
  far : w.heap.size + 3 < m
theorem PutB.below {w W W' : World} {m : Nat} {now : Int} {rv : Value} {ps : List PsV} (h : PutB w m now rv ps W) (hb : Below W.heap.size W W') : PutB w m now rv ps W' := by
  have h1 := h.siz
  have h2 := h.far
  exact ⟨h.bel.trans (hb.mono h.bel.size), Nat.le_trans h.siz hb.size, (hb.block _ (by omega)).trans h.cnow, (hb.block _ (by omega)).trans h.box, (hb.block _ (by omega)).trans h.mp, OwnK.below h.row hb, h.few, h.far⟩
theorem PutB.map {w W W' : World} {m : Nat} {now : Int} {rv : Value} {ps : List PsV} (h : PutB w m now rv ps W) (hg : W.grownBy W' (some (w.heap.size + 2))) : PutB w m now rv ps W' := by
  have h1 := h.siz
  have h2 := h.far
  refine ⟨h.bel.grown hg h.bel.size (fun i hi => by injection hi with hi; omega), Nat.le_trans h.siz hg.size, (hg.block _ (by omega) (by simp)).trans h.cnow, (hg.block _ (by omega) (by simp)).trans h.box, (hg.block _ (by omega) (by simp)).trans h.mp, OwnK.kept h.row hg ?_, h.few, h.far⟩
  cases hv : rv.ownBlock with
  | none => exact .inl rfl
  | some x =>
    refine .inr fun e => ?_
    injection e with e
    have := (OwnK.lt h.row x hv).1
    omega
/-- Between two rounds. -/
def PutI (w : World) (m : Nat) (now : Int) (rv : Value) (pre : List PsV) (W : World) : Prop := PutB w m now rv (pickL now [] pre) W ∧ OwnC W (w.heap.size + 2) pre.length (cntP pre)
/-- A round has left: the row is full. -/
structure PutX (w : World) (m : Nat) (now : Int) (rv : Value) (xs : List PsV) (W : World) : Prop where
  bel : Below w.heap.size w W
  siz : m ≤ W.heap.size
  box : W.heap[w.heap.size + 1]? = some (.cells #[rv] 22 (0, 0))
  row : ∃ pre, pre <+: xs ∧ (pickL now [] pre).length = 32 ∧ OwnQ W m rv (pickL now [] pre)
theorem ownQ_kept {W W' : World} {B : Nat} {v : Value} {ps : List PsV} {row : Option Nat} (h : OwnQ W B v ps) (hg : W.grownBy W' row) (hr : ∀ r, row = some r → ∃ o : Obj, W.heap[r]? = some o ∧ o.isCells = false) : OwnQ W' B v ps := by
  refine OwnK.kept h hg ?_
  cases hv : v.ownBlock with
  | none => exact .inl rfl
  | some x =>
    refine .inr fun e => ?_
    obtain ⟨c, hc⟩ := ownK_typed h x hv
    obtain ⟨o, ho, hn⟩ := hr x e.symm
    rw [hc] at ho
    injection ho with ho
    subst ho
    cases hn
theorem cells_kept {W W' : World} {b : Nat} {cs : Array Value} {t : TypeId} {fr : Nat × Nat} {row : Option Nat} (h : W.heap[b]? = some (.cells cs t fr)) (hg : W.grownBy W' row) (hr : ∀ r, row = some r → ∃ o : Obj, W.heap[r]? = some o ∧ o.isCells = false) : W'.heap[b]? = some (.cells cs t fr) := by
  refine (hg.block b (Array.getElem?_eq_some_iff.1 h).1 (fun e => ?_)).trans h
  obtain ⟨o, ho, hn⟩ := hr b e.symm
  rw [h] at ho
  injection ho with ho
  subst ho
  cases hn
theorem putI_own (w : World) (m : Nat) (now : Int) (hm : w.heap.size + 3 < m) : OwnFrom m (fun (s : List (Nat × GP)) W => ∃ rv, PutI w m now rv (s.map (fun y => y.2.1)) W) := by
  rintro s W W' row ⟨rv, h, hc⟩ hg hr
  have hr2 : ∀ r, row = some r → ∃ o : Obj, W.heap[r]? = some o ∧ o.isCells = false := fun r e => (hr r e).2
  refine ⟨rv, ⟨h.bel.grown hg h.bel.size (fun i hi => by have := (hr i hi).1; omega), Nat.le_trans h.siz hg.size, cells_kept h.cnow hg hr2, cells_kept h.box hg hr2, cells_kept h.mp hg hr2, ownQ_kept h.row hg hr2, h.few, h.far⟩, hc.kept hg (fun e => ?_)⟩
  have := (hr _ e.symm).1
  omega
theorem putX_own (w : World) (m : Nat) (now : Int) (hm : w.heap.size + 3 < m) : OwnFrom m (fun (s : List (Nat × GP)) W => ∃ rv, PutX w m now rv (s.map (fun y => y.2.1)) W) := by
  rintro s W W' row ⟨rv, h⟩ hg hr
  have hr2 : ∀ r, row = some r → ∃ o : Obj, W.heap[r]? = some o ∧ o.isCells = false := fun r e => (hr r e).2
  obtain ⟨pre, h1, h2, h3⟩ := h.row
  exact ⟨rv, ⟨h.bel.grown hg h.bel.size (fun i hi => by have := (hr i hi).1; omega), Nat.le_trans h.siz hg.size, cells_kept h.box hg hr2, pre, h1, h2, ownQ_kept h3 hg hr2⟩⟩
/-- Where Put's own things lie. -/
structure Put0 (w : World) (now : Int) (W : World) : Prop where
  bel : Below w.heap.size w W
  siz : w.heap.size + 4 ≤ W.heap.size
  cnow : W.heap[w.heap.size]? = some (.cells #[.int .i64 now] 3 (0, 0))
  box : W.heap[w.heap.size + 1]? = some (.cells #[.slice none 0 0] 22 (0, 0))
  mp : W.heap[w.heap.size + 3]? = some (.cells #[.map (some (w.heap.size + 2))] 54 (0, 0))
  cnt : OwnC W (w.heap.size + 2) 0 (fun _ => 0)
theorem Put0.step {w W W' : World} {now : Int} (h : Put0 w now W) (hb : Below W.heap.size W W') : Put0 w now W' :=
  ⟨h.bel.trans (hb.mono h.bel.size), Nat.le_trans h.siz hb.size, (hb.block _ (by have := h.siz; omega)).trans h.cnow, (hb.block _ (by have := h.siz; omega)).trans h.box, (hb.block _ (by have := h.siz; omega)).trans h.mp, h.cnt.kept (below_grown hb none) (by simp)⟩
theorem put0 (w : World) (now : Int) : Put0 w now ((((w.alloc (.cells #[.int .i64 now] 3)).alloc (.cells #[.slice none 0 0] 22)).alloc (.map #[] 0)).alloc (.cells #[.map (some (w.heap.size + 1 + 1))] 54)) := by
  refine ⟨(((Below.refl _ _).alloc (Nat.le_refl _) _).alloc (by simp) _).alloc (by simp; omega) _ |>.alloc (by simp; omega) _, by simp, ?_, ?_, ?_, ?_⟩
  · refine (Below.heap_alloc _ _ _ (by simp only [World.size_alloc]; omega)).trans ((Below.heap_alloc _ _ _ (by simp only [World.size_alloc]; omega)).trans ((Below.heap_alloc _ _ _ (by simp only [World.size_alloc]; omega)).trans ?_))
    exact heap_alloc_new w _
  · refine (Below.heap_alloc _ _ _ (by simp only [World.size_alloc]; omega)).trans ((Below.heap_alloc _ _ _ (by simp only [World.size_alloc]; omega)).trans ?_)
    have := heap_alloc_new (w.alloc (.cells #[.int .i64 now] 3)) (.cells #[.slice none 0 0] 22)
    simpa using this
  · have := heap_alloc_new (((w.alloc (.cells #[.int .i64 now] 3)).alloc (.cells #[.slice none 0 0] 22)).alloc (.map #[] 0)) (.cells #[.map (some (w.heap.size + 1 + 1))] 54)
    simpa using this
  · have h := ownC_made ((w.alloc (.cells #[.int .i64 now] 3)).alloc (.cells #[.slice none 0 0] 22))
    have := h.kept (World.grownBy_alloc _ (.cells #[.map (some (w.heap.size + 1 + 1))] 54) none) (by simp)
    simpa using this
/-- A round's own things: what stays while it goes. -/
structure Rnd (w : World) (m Bs cb P : Nat) (now : Int) (rv : Value) (ps : List PsV) (x : PsV) (W0 W : World) : Prop where
  inv : PutB w m now rv ps W
  kf : KeepsFrom m W0 W
  kq : KeepsQ Bs cb W0 W
  pb : W.heap[P]? = some (.cells x.vals.toArray 35 (0, 0))
  pm : m ≤ P
  hB : Bs < m ∧ w.heap.size + 3 < Bs
  hc : cb < m ∧ w.heap.size + 3 < cb
theorem Rnd.below {w W0 W W' : World} {m Bs cb P : Nat} {now : Int} {rv : Value} {ps : List PsV} {x : PsV} (h : Rnd w m Bs cb P now rv ps x W0 W) (hb : Below W.heap.size W W') : Rnd w m Bs cb P now rv ps x W0 W' := by
  have h1 := h.inv.siz
  have h2 := h.hB
  have h3 := h.hc
  exact ⟨h.inv.below hb, h.kf.trans (KeepsFrom.of_grownBy (below_grown hb none) (fun j e => by cases e)), keepsQ_t h.kq ⟨hb.size, hb.block _ (by omega), hb.block _ (by omega)⟩, (hb.block _ (Array.getElem?_eq_some_iff.1 h.pb).1).trans h.pb, h.pm, h.hB, h.hc⟩
theorem Rnd.map {w W0 W W' : World} {m Bs cb P : Nat} {now : Int} {rv : Value} {ps : List PsV} {x : PsV} (h : Rnd w m Bs cb P now rv ps x W0 W) (hg : W.grownBy W' (some (w.heap.size + 2))) : Rnd w m Bs cb P now rv ps x W0 W' := by
  have h1 := h.inv.siz
  have h2 := h.hB
  have h3 := h.hc
  have h4 := h.pm
  have h5 := h.inv.far
  exact ⟨h.inv.map hg, h.kf.trans (KeepsFrom.of_grownBy hg (fun j e => by injection e with e; omega)), keepsQ_t h.kq ⟨hg.size, hg.block _ (by omega) (by simp; omega), hg.block _ (by omega) (by simp; omega)⟩, (hg.block _ (Array.getElem?_eq_some_iff.1 h.pb).1 (by simp; omega)).trans h.pb, h.pm, h.hB, h.hc⟩
theorem Rnd.cell {w W0 W : World} {m Bs cb P : Nat} {now : Int} {rv : Value} {ps : List PsV} {x : PsV} (h : Rnd w m Bs cb P now rv ps x W0 W) (j : Nat) {v : Value} (hj : x.vals[j]? = some v) : W.cell? ⟨P, j, none⟩ = some v := (cell_of h.pb).trans (by simpa using hj)
/-- A pass more in the row. -/
theorem Rnd.more {w W0 W W1 : World} {m Bs cb P : Nat} {now : Int} {rv rv' : Value} {ps : List PsV} {x : PsV} {cs : Array Value} (h : Rnd w m Bs cb P now rv ps x W0 W) (hown : OwnQ W1 m rv' (ps ++ [x])) (hg : (W.alloc (.cells cs 35)).grownBy W1 rv.ownBlock) (hf : (ps ++ [x]).length ≤ 32) {k : Nat} {c : PsV → Nat} (hcnt : OwnC W (w.heap.size + 2) k c) :
    PutB w m now rv' (ps ++ [x]) (W1.setCell ⟨w.heap.size + 1, 0, none⟩ rv') ∧ KeepsFrom m W0 (W1.setCell ⟨w.heap.size + 1, 0, none⟩ rv') ∧ KeepsQ Bs cb W0 (W1.setCell ⟨w.heap.size + 1, 0, none⟩ rv') ∧ OwnC (W1.setCell ⟨w.heap.size + 1, 0, none⟩ rv') (w.heap.size + 2) k c := by
  have hb : Below W.heap.size W (W.alloc (.cells cs 35)) := (Below.refl _ _).alloc (Nat.le_refl _) _
  have h' := h.below hb
  have hcnt2 := hcnt.kept (below_grown hb none) (by simp)
  generalize W.alloc (.cells cs 35) = W2 at h' hg hcnt2
  clear hb h hcnt
  have h1 := h'.inv.siz
  have h2 := h'.hB
  have h3 := h'.hc
  have h4 := h'.pm
  have h5 := h'.inv.far
  have hne : ∀ k, k < m → some k ≠ rv.ownBlock := fun k hk e => by
    have := (OwnK.lt h'.inv.row k e.symm).1
    omega
  have hr : ∀ j o, rv.ownBlock = some j → W2.heap[j]? = some o → o.isCells = true := fun j o e ho => by
    obtain ⟨c, hc⟩ := ownK_typed h'.inv.row j e
    rw [hc] at ho
    injection ho with ho
    subst ho
    rfl
  have hbox := (hg.block _ (by omega) (hne _ (by omega))).trans h'.inv.box
  have g2 : W1.grownBy (W1.setCell ⟨w.heap.size + 1, 0, none⟩ rv') (some (w.heap.size + 1)) := grown_setCells W1 (w.heap.size + 1) 0 [rv']
  have hps := hg.size
  refine ⟨⟨?_, by have := g2.size; omega, ?_, heap_setCell_same W1 _ 0 _ _ rv' hbox, ?_, OwnK.kept hown g2 ?_, hf, h5⟩, ?_, ?_, (hcnt2.kept hg (hne _ (by omega))).kept g2 (by simp)⟩
  · exact (h'.inv.bel.grown hg h'.inv.bel.size (fun i hi => by have := (OwnK.lt h'.inv.row i hi).1; omega)).grown g2 (by have := h'.inv.bel.size; omega) (fun i hi => by injection hi with hi; omega)
  · rw [g2.block _ (by omega) (by simp), hg.block _ (by omega) (hne _ (by omega))]
    exact h'.inv.cnow
  · rw [g2.block _ (by omega) (by simp), hg.block _ (by omega) (hne _ (by omega))]
    exact h'.inv.mp
  · cases hv : rv'.ownBlock with
    | none => exact .inl rfl
    | some y =>
      refine .inr fun e => ?_
      injection e with e
      have := (OwnK.lt hown y hv).1
      omega
  · exact (h'.kf.trans ((KeepsOthers.of_grownBy hg hr).from m)).trans (KeepsFrom.of_grownBy g2 (fun j e => by injection e with e; omega))
  · refine keepsQ_t (keepsQ_t h'.kq ⟨hg.size, hg.block _ (by omega) (hne _ (by omega)), hg.block _ (by omega) (hne _ (by omega))⟩) ⟨g2.size, g2.block _ (by omega) (by simp; omega), g2.block _ (by omega) (by simp; omega)⟩
theorem run_apq (W : World) (m : Nat) (rv : Value) (ps : List PsV) (x : PsV) (hown : OwnQ W m rv ps) (hl : ps.length ≤ 1000) (hm : m ≤ W.heap.size) (ty : TypeId) :
    ∃ g cap w', (Builtin.append_ #[22, 22] ty #[rv, .slice (some ⟨W.heap.size, 0, none⟩) 1 1]).run Tryd.prog (W.alloc (.cells x.vals.toArray 35)) = .ok (.slice (some ⟨g, 0, none⟩) (ps.length + 1) cap) w' ∧
      OwnQ w' m (.slice (some ⟨g, 0, none⟩) (ps.length + 1) cap) (ps ++ [x]) ∧ (W.alloc (.cells x.vals.toArray 35)).grownBy w' rv.ownBlock := by
  obtain ⟨i0, hi0, hz0, hz1, hz2⟩ := info_parts infoX
  have hrow := hown.row
  rw [List.length_map] at hrow
  obtain ⟨g, cap, w', hr, h2, h3, _, _⟩ := run_append_lies (P := Tryd.prog) (w := W.alloc (.cells x.vals.toArray 35)) 22 ty m 35 i0 _ 12 144 Tryd.underlying22 hi0 hz0 hz1 hz2 rfl (by omega) rv ps.length _ (World.ownsRow.alloc hrow _) ⟨W.heap.size, 0, none⟩ 1 1 x.vals rfl
    (World.news_of_block (cs := x.vals.toArray) (t := 35) (fr := (0, 0)) (heap_alloc_new W _)) (vals_one x) (by omega) (by unfold maxLen; omega) (by omega) (by simp; omega) _ rfl
  refine ⟨g, cap, w', hr, ?_, h3⟩
  have := OwnK.appended (n := ps.length) hown (by rw [List.length_map]) (y := x.vals) rfl (vals_one x) h2
  unfold OwnQ
  rw [List.map_append]
  exact this
/-- An append at a step of a region, by what it is known to come to. -/
theorem step_ap {P : Program} {ops : Array Oper} {o : Oper} {a : Act} {K : Act → World → Prop} {Q : Exit → Act → World → Prop} {E : Prop} {w w' : World} (hgd : o.guard = none) (s x : Operand) (t : TypeId)
    (ho : o.op = .call { callee := .builtin .append, args := #[s, x], argTypes := #[t, t] }) {v1 v2 u : Value} (hs : a.eval s = v1) (hx : a.eval x = v2) (hr : (Builtin.append_ #[t, t] o.type #[v1, v2]).run P w = .ok u w') (h : K (a.put o.dst u) w') :
    if Region.wanted o (yielded ops a.tmps) = true then Oper.wp P o a w K Q else E := by
  have hw : Region.wanted o (yielded ops a.tmps) = true := by simp [Region.wanted, hgd]
  rw [if_pos hw]
  unfold Oper.wp execOp
  simp only [ho, resolve, invoke, builtin, Sem.run_bind, Sem.run_pure, Result.andThen_ok, List.map_toArray, List.map_cons, List.map_nil, hs, hx, hr]
  exact h
theorem run_bsq (W : World) (x : PsV) : (Instr.buildSlice 22 1 #[(0, .agg x.vals.toArray)]).run Tryd.prog W = .ok (.slice (some ⟨W.heap.size, 0, none⟩) 1 1) (W.alloc (.cells x.vals.toArray 35)) :=
  run_bs1 Tryd.prog W 22 35 12 (by omega) (by omega) _ Tryd.underlying22 Tryd.sizeOf35 Tryd.zeroValue35 rfl x.vals rfl
theorem reverseQ_own2 (cs : List PsV) (B : Nat) (v : Value) (hn : cs.length ≤ 1000) (w : World) (hx : OwnQ w B v cs) :
    Calls Tryd.prog 29 #[v] w fun e w' => e = .returned (.tuple #[]) ∧ Hid (OwnQ w' B v cs.reverse ∧ w.grownBy w' v.ownBlock) := by
  rcases OwnK.forms (show OwnK 12 35 w B v (cs.map PsV.vals) from hx) with ⟨rfl, h0⟩ | ⟨g, cap, rfl, hBg, _, _, _⟩
  · obtain rfl : cs = [] := by simpa using h0
    refine (reverseQ_nil w).mono ?_
    rintro e w' ⟨rfl, rfl⟩
    exact ⟨rfl, hx, World.grownBy.refl _ _⟩
  · refine (reverseQ_any cs B g _ cap (by rw [List.length_map]) (by rw [List.length_map]; exact hn) w hx).mono ?_
    rintro e w' ⟨rfl, h⟩
    exact ⟨rfl, h.out.1, h.out.2⟩
/-- What Put leaves. -/
theorem put_end {w W w7 : World} {B bk m D : Nat} {v rv : Value} {xs l ps : List PsV} {now : Int} (hK : BookW w B bk v xs) (hl : ∀ p ∈ l, GoodP p) (hbel : Below w.heap.size w W) (hm : w.heap.size ≤ m) (hD : m ≤ D) (hrow : OwnQ W m rv ps) (hps : (pickL now [] (xs ++ l).reverse).take 32 = ps)
    (hg : W.grownBy w7 rv.ownBlock) (hown : OwnQ w7 m rv ps.reverse) (hDK : W.heap[D]? = some (.deferred (some []))) :
    (w7.setCell ⟨bk, 0, none⟩ rv).heap[D]? = some (.deferred (some [])) ∧ w7.heap[bk]? = some (.cells #[v] 27 (0, 0)) ∧ BookW ((w7.setCell ⟨bk, 0, none⟩ rv).putObj D (.deferred none)) B bk rv (putL now xs l) ∧ w.grownBy ((w7.setCell ⟨bk, 0, none⟩ rv).putObj D (.deferred none)) (some bk) ∧ ∀ x, rv.ownBlock = some x → w.heap.size ≤ x := by
  have hbl := hK.lt
  have hlo : ∀ x, rv.ownBlock = some x → m ≤ x := fun x hx => (OwnK.lt hrow x hx).1
  have hne : ∀ k, k < m → some k ≠ rv.ownBlock := fun k hk e => by have := hlo k e.symm; omega
  have hDr : some D ≠ rv.ownBlock := fun e => by
    obtain ⟨c, hc⟩ := ownK_typed hrow D e.symm
    rw [hDK] at hc
    cases hc
  have hDlt := (Array.getElem?_eq_some_iff.1 hDK).1
  have hbk7 : w7.heap[bk]? = some (.cells #[v] 27 (0, 0)) := by
    rw [hg.block _ (Nat.lt_of_lt_of_le hbl hbel.size) (hne _ (by omega)), hbel.block _ hbl]
    exact hK.blk
  have g2 : w7.grownBy (w7.setCell ⟨bk, 0, none⟩ rv) (some bk) := grown_setCells w7 bk 0 [rv]
  have hD7 : (w7.setCell ⟨bk, 0, none⟩ rv).heap[D]? = some (.deferred (some [])) := by
    rw [g2.block _ (Nat.lt_of_lt_of_le hDlt hg.size) (by simp; omega), hg.block _ hDlt hDr]
    exact hDK
  have g3 : (w7.setCell ⟨bk, 0, none⟩ rv).grownBy ((w7.setCell ⟨bk, 0, none⟩ rv).putObj D (.deferred none)) (some D) := grownBy_putObj' _ _ _
  have hb8 : (w7.setCell ⟨bk, 0, none⟩ rv).heap[bk]? = some (.cells #[rv] 27 (0, 0)) := heap_setCell_same w7 bk 0 _ _ rv hbk7
  have hput : putL now xs l = ps.reverse := by unfold putL; rw [hps]
  have hmem : ∀ p ∈ ps, p ∈ xs ∨ p ∈ l := fun p hp => by
    rw [← hps] at hp
    have := (pickL_mem _ _ _ _ (List.mem_of_mem_take hp)).1
    exact List.mem_append.1 (List.mem_reverse.1 this)
  refine ⟨hD7, hbk7, ⟨?_, hK.low, ?_, fun p hp => ?_, putL_len _ _ _⟩, ?_, fun x hx => Nat.le_trans hm (hlo x hx)⟩
  · rw [g3.block _ (Array.getElem?_eq_some_iff.1 hb8).1 (by simp; omega)]
    exact hb8
  · rw [hput]
    have h1 : OwnQ (w7.setCell ⟨bk, 0, none⟩ rv) m rv ps.reverse := by
      refine OwnK.kept hown g2 ?_
      cases hv : rv.ownBlock with
      | none => exact .inl rfl
      | some y => exact .inr fun e => by injection e with e; have := hlo y hv; omega
    refine OwnK.mono (OwnK.kept h1 g3 ?_) (by have := hK.low; omega)
    cases hv : rv.ownBlock with
    | none => exact .inl rfl
    | some y => exact .inr fun e => hDr (by rw [hv]; exact e.symm)
  · rw [hput] at hp
    exact (hmem p (List.mem_reverse.1 hp)).elim (hK.good p) (hl p)
  · refine ⟨g3.os.trans (g2.os.trans (hg.os.trans hbel.os)), g3.tape.trans (g2.tape.trans (hg.tape.trans hbel.tape)), g3.output.trans (g2.output.trans (hg.output.trans hbel.output)), Nat.le_trans hbel.size (Nat.le_trans hg.size (Nat.le_trans g2.size g3.size)), fun i hi hne2 => ?_⟩
    have hiW := Nat.lt_of_lt_of_le hi hbel.size
    have hi7 := Nat.lt_of_lt_of_le hiW hg.size
    rw [g3.block _ (Nat.lt_of_lt_of_le hi7 g2.size) (by simp; omega), g2.block _ hi7 hne2, hg.block _ hiW (hne _ (by omega)), hbel.block _ hi]
end Go.Proofs.YtihhabidfcgogaaDoor
