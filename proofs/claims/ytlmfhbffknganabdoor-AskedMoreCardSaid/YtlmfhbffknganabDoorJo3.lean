/- Texts of one claim, joined: each begins with what it proves. -/
import Derived.Test.YtlmfhbffknganabDoorJo1
import Derived.Test.YtlmfhbffknganabDoorJo2
import Derived.Shelf.Sort.Plain
import Derived.Shelf.Slices.CompactS
import Derived.Shelf.Slices.In.SortNone
import Derived.Sort.OwnSorted
import Derived.Lib.OwnBridge
import Derived.Deep.Draws
import Derived.Deep.LoopGhost
import Derived.Deep.Cut
import Derived.Deep.CutRange
import Derived.Deep.DeepCutAuto
import Derived.Shelf.Slices.Equal
import Derived.Lib.Strings
/- The library's contracts that are leant on, laid at this program's numbers. -/
namespace Go.Proofs.YtlmfhbffknganabDoor
open Go.Shelf Go.RowKit
def lays190_ren : Go.Shelf.Ren := ⟨fun | 190 => 21 | 125 => 35 | 258 => 34 | 128 => 50 | 129 => 51 | 302 => 41 | 303 => 42 | 304 => 43 | 305 => 44 | 306 => 45 | 307 => 46 | 308 => 47 | 309 => 48 | 310 => 49 | 333 => 62 | 329 => 63 | 330 => 64 | 334 => 65 | 335 => 66 | 336 => 67 | 344 => 73 | n => n, fun | 31 => 27 | 9 => 9 | 3 => 3 | 46 => 51 | 0 => 0 | 51 => 68 | 53 => 70 | 4 => 4 | 183 => 61 | 182 => 60 | 131 => 65 | 5 => 5 | 218 => 79 | 222 => 83 | 228 => 89 | 229 => 90 | n => n, fun | n => n⟩
theorem lays190 : Go.Proofs.Lays.n190 Tryd.prog lays190_ren := {
  mixed := by kernel_rfl
  f125 := Tryd.func35.trans (congrArg some (by kernel_rfl))
  f128 := Tryd.func50.trans (congrArg some (by kernel_rfl))
  f129 := Tryd.func51.trans (congrArg some (by kernel_rfl))
  f190 := Tryd.func21.trans (congrArg some (by kernel_rfl))
  f258 := Tryd.func34.trans (congrArg some (by kernel_rfl))
  f302 := Tryd.func41.trans (congrArg some (by kernel_rfl))
  f303 := Tryd.func42.trans (congrArg some (by kernel_rfl))
  f304 := Tryd.func43.trans (congrArg some (by kernel_rfl))
  f305 := Tryd.func44.trans (congrArg some (by kernel_rfl))
  f306 := Tryd.func45.trans (congrArg some (by kernel_rfl))
  f307 := Tryd.func46.trans (congrArg some (by kernel_rfl))
  f308 := Tryd.func47.trans (congrArg some (by kernel_rfl))
  f309 := Tryd.func48.trans (congrArg some (by kernel_rfl))
  f310 := Tryd.func49.trans (congrArg some (by kernel_rfl))
  f329 := Tryd.func63.trans (congrArg some (by kernel_rfl))
  f330 := Tryd.func64.trans (congrArg some (by kernel_rfl))
  f333 := Tryd.func62.trans (congrArg some (by kernel_rfl))
  f334 := Tryd.func65.trans (congrArg some (by kernel_rfl))
  f335 := Tryd.func66.trans (congrArg some (by kernel_rfl))
  f336 := Tryd.func67.trans (congrArg some (by kernel_rfl))
  f344 := Tryd.func73.trans (congrArg some (by kernel_rfl))
  t0 := Tryd.underlying0
  a0 := Tryd.isAgg0
  z0 := Tryd.sizeOf0
  v0 := Tryd.zeroValue0
  t3 := Tryd.underlying3
  a3 := Tryd.isAgg3
  z3 := Tryd.sizeOf3
  v3 := Tryd.zeroValue3
  t4 := Tryd.underlying4
  a4 := Tryd.isAgg4
  z4 := Tryd.sizeOf4
  v4 := Tryd.zeroValue4
  t5 := Tryd.underlying5
  a5 := Tryd.isAgg5
  z5 := Tryd.sizeOf5
  v5 := Tryd.zeroValue5
  t9 := Tryd.underlying9
  a9 := Tryd.isAgg9
  z9 := Tryd.sizeOf9
  v9 := Tryd.zeroValue9
  t31 := Tryd.underlying27
  a31 := Tryd.isAgg27
  z31 := Tryd.sizeOf27
  v31 := Tryd.zeroValue27
  t46 := Tryd.underlying51
  a46 := Tryd.isAgg51
  z46 := Tryd.sizeOf51
  v46 := Tryd.zeroValue51
  t51 := Tryd.underlying68
  a51 := Tryd.isAgg68
  z51 := Tryd.sizeOf68
  v51 := Tryd.zeroValue68
  t53 := Tryd.underlying70
  a53 := Tryd.isAgg70
  z53 := Tryd.sizeOf70
  v53 := Tryd.zeroValue70
  t131 := Tryd.underlying65
  a131 := Tryd.isAgg65
  z131 := Tryd.sizeOf65
  v131 := Tryd.zeroValue65
  t182 := Tryd.underlying60
  a182 := Tryd.isAgg60
  z182 := Tryd.sizeOf60
  v182 := Tryd.zeroValue60
  t183 := Tryd.underlying61
  a183 := Tryd.isAgg61
  z183 := Tryd.sizeOf61
  v183 := Tryd.zeroValue61
  t218 := Tryd.underlying79
  a218 := Tryd.isAgg79
  z218 := Tryd.sizeOf79
  v218 := Tryd.zeroValue79
  t222 := Tryd.underlying83
  a222 := Tryd.isAgg83
  z222 := Tryd.sizeOf83
  v222 := Tryd.zeroValue83
  t228 := Tryd.underlying89
  a228 := Tryd.isAgg89
  z228 := Tryd.sizeOf89
  v228 := Tryd.zeroValue89
  t229 := Tryd.underlying90
  a229 := Tryd.isAgg90
  z229 := Tryd.sizeOf90
  v229 := Tryd.zeroValue90 }
def lays194_ren : Go.Shelf.Ren := ⟨fun | 194 => 22 | n => n, fun | 31 => 27 | 9 => 9 | 3 => 3 | 4 => 4 | 0 => 0 | n => n, fun | n => n⟩
theorem lays194 : Go.Proofs.Lays.n194 Tryd.prog lays194_ren := {
  mixed := by kernel_rfl
  f194 := Tryd.func22.trans (congrArg some (by kernel_rfl))
  t0 := Tryd.underlying0
  a0 := Tryd.isAgg0
  z0 := Tryd.sizeOf0
  v0 := Tryd.zeroValue0
  t3 := Tryd.underlying3
  a3 := Tryd.isAgg3
  z3 := Tryd.sizeOf3
  v3 := Tryd.zeroValue3
  t4 := Tryd.underlying4
  a4 := Tryd.isAgg4
  z4 := Tryd.sizeOf4
  v4 := Tryd.zeroValue4
  t9 := Tryd.underlying9
  a9 := Tryd.isAgg9
  z9 := Tryd.sizeOf9
  v9 := Tryd.zeroValue9
  t31 := Tryd.underlying27
  a31 := Tryd.isAgg27
  z31 := Tryd.sizeOf27
  v31 := Tryd.zeroValue27 }
end Go.Proofs.YtlmfhbffknganabDoor

/- Texts sorted, each once, by the library, at rows that a call owns. -/
namespace Go.Proofs.YtlmfhbffknganabDoor
open Go.RowKit Go.Shelf Go.Sort

def tx (xs : List ByteArray) : List (List UInt8) := xs.map (·.data.toList)
def sortL (ss : List (List UInt8)) : List (List UInt8) := ss.mergeSort fun x y => decide (x ≤ y)
theorem tx_bs (ss : List (List UInt8)) : tx (ss.map bs) = ss := by
  unfold tx
  rw [List.map_map]
  conv => rhs; rw [← List.map_id ss]
  apply List.map_congr_left
  intro x _
  exact bs_data x
theorem bs_tx (xs : List ByteArray) : (tx xs).map bs = xs := by
  unfold tx
  rw [List.map_map]
  conv => rhs; rw [← List.map_id xs]
  apply List.map_congr_left
  intro x _
  exact bs_self x
theorem enc_bs (ss : List (List UInt8)) : ss.map Proofs.encStr = (ss.map bs).map Value.string := by
  have := Lib.map_encStr (ss.map bs)
  rw [show (ss.map bs).map (·.data.toList) = ss from tx_bs ss] at this
  exact this
theorem sortL_len (ss : List (List UInt8)) : (sortL ss).length = ss.length := List.length_mergeSort ss
theorem sortL_perm (ss : List (List UInt8)) : (sortL ss).Perm ss := List.mergeSort_perm ss _
theorem le_total' (a b : List UInt8) : (decide (a ≤ b) || decide (b ≤ a)) = true := by
  rcases List.le_total a b with h | h
  · simp [h]
  · simp [h]
theorem sortL_sorted (ss : List (List UInt8)) : (sortL ss).Pairwise fun a b => a ≤ b := by
  have h := List.pairwise_mergeSort (le := fun x y : List UInt8 => decide (x ≤ y)) (fun a b c h1 h2 => decide_eq_true (List.le_trans (of_decide_eq_true h1) (of_decide_eq_true h2))) le_total' ss
  exact h.imp fun h => of_decide_eq_true h
theorem sortL_of_perm {a b : List (List UInt8)} (h : a.Perm b) : sortL a = sortL b :=
  List.Perm.eq_of_pairwise (le := fun a b => a ≤ b) (fun _ _ _ _ h1 h2 => List.le_antisymm h1 h2) (sortL_sorted a) (sortL_sorted b) ((sortL_perm a).trans (h.trans (sortL_perm b).symm))
theorem OwnS.enc {w : World} {B : Nat} {v : Value} {xs : List ByteArray} (h : OwnS w B v xs) : w.ownsRow B 9 1 v xs.length ((tx xs).map Proofs.encStr) := by
  rw [enc_bs, bs_tx]
  exact h
set_option maxHeartbeats 1000000 in
theorem sort_own (w : World) (B : Nat) (v : Value) (xs : List ByteArray) (h : OwnS w B v xs) (hl : xs.length ≤ 1000000) :
    Calls Tryd.prog 21 #[v] w fun e w' => e = .returned (.tuple #[]) ∧ OwnS w' B v ((sortL (tx xs)).map bs) ∧ w.grownBy w' v.ownBlock := by
  have henc := h.enc
  have hlen : (tx xs).length = xs.length := by unfold tx; simp
  rcases henc.2 with ⟨rfl, h0⟩ | ⟨g, cap, cur, rfl, hbase, hb, h1, h2, h3, h4⟩
  · obtain rfl : xs = [] := List.eq_nil_of_length_eq_zero h0
    refine (Any.slices_Sort_string_none lays190 none 0 w).mono ?_
    rintro e w' ⟨rfl, rfl⟩
    refine ⟨rfl, ?_, ⟨rfl, rfl, rfl, Nat.le_refl _, fun _ _ _ => rfl⟩⟩
    have : sortL (tx []) = [] := by unfold tx sortL; simp
    rw [this]
    exact h
  · have hH : Holds Proofs.encStr w g 0 (tx xs).toArray := holds_of_block hb (by rw [hlen]; rw [Nat.mul_one] at h4; exact h4)
    have hs := Any.slices_Sort_string lays190 g 0 cap (tx xs) w hH (Array.getElem?_eq_some_iff.1 hb).1 (by rw [hlen]; omega)
    rw [hlen] at hs
    refine hs.mono ?_
    rintro e w' ⟨rfl, n, os, rfl⟩
    refine ⟨rfl, ?_, grownBy_sorted _⟩
    have ho := ownsRow_sorted (n := n) (os := os) (ss := tx xs) (ts := sortL (tx xs)) (sortL_len _) hbase hb (by rw [hlen]; exact h1) h2 h3
    rw [enc_bs, hlen] at ho
    unfold OwnS
    rw [List.length_map, sortL_len, hlen]
    exact ho
theorem compact_len (ss : List (List UInt8)) : (Lib.compact ss).length ≤ ss.length := Lib.compact_length_le ss
set_option maxHeartbeats 1000000 in
theorem compact_own (w : World) (B : Nat) (v : Value) (xs : List ByteArray) (h : OwnS w B v xs) (hl : xs.length ≤ 1000000) :
    Calls Tryd.prog 22 #[v] w fun e w' => (∃ v', e = .returned v' ∧ OwnS w' B v' ((Lib.compact (tx xs)).map bs)) ∧ w.grownBy w' v.ownBlock := by
  have henc := h.enc
  have hlen : (tx xs).length = xs.length := by unfold tx; simp
  rcases henc.2 with ⟨rfl, h0⟩ | ⟨g, cap, cur, rfl, hbase, hb, h1, h2, h3, h4⟩
  · obtain rfl : xs = [] := List.eq_nil_of_length_eq_zero h0
    refine (Any.slices_Compact_string_empty lays194 none 0 w).mono ?_
    rintro e w' ⟨rfl, rfl⟩
    refine ⟨⟨_, rfl, ?_⟩, ⟨rfl, rfl, rfl, Nat.le_refl _, fun _ _ _ => rfl⟩⟩
    have : Lib.compact (tx []) = [] := by unfold tx; rfl
    rw [this]
    exact h
  · have hH : Holds Proofs.encStr w g 0 (tx xs).toArray := holds_of_block hb (by rw [hlen]; rw [Nat.mul_one] at h4; exact h4)
    have hs := Any.slices_Compact_string lays194 g 0 cap (tx xs) w hH (by rw [hlen]; omega) (by rw [hlen]; exact h1)
    rw [hlen] at hs
    have hcl := compact_len (tx xs)
    refine hs.mono ?_
    rintro e w' ⟨rfl, q, rfl⟩
    refine ⟨⟨_, rfl, ?_⟩, ?_⟩
    · have ho := Lib.ownsRow_putRow (q := q) (k := (Lib.compact (tx xs)).length) (ys := Lib.compact (tx xs) ++ List.replicate (xs.length - (Lib.compact (tx xs)).length) []) henc (by simp; omega) (by omega)
      rw [List.take_left, enc_bs] at ho
      unfold OwnS
      rw [List.length_map]
      exact ho
    · refine ⟨rfl, rfl, rfl, by simp [putRow, mapBlock, Sort.ahead], fun k hk hne => ?_⟩
      have : g ≠ k := fun e => hne (by rw [e]; rfl)
      simp [putRow, mapBlock, Sort.ahead, Array.getElem?_modify, this]
end Go.Proofs.YtlmfhbffknganabDoor

/- What a challenge is. -/
namespace Go.Proofs.YtlmfhbffknganabDoor

abbrev Par := ByteArray × ByteArray
structure Chal where
  scheme : ByteArray
  token : ByteArray
  params : List Par
end Go.Proofs.YtlmfhbffknganabDoor

/- Rows of parameters that lie somewhere. -/
namespace Go.Proofs.YtlmfhbffknganabDoor
open Go.RowKit

/-- A row of parameters that lies somewhere. -/
structure Pars (w : World) (a0 : Option Addr) (len b off : Nat) (ps : List Par) : Prop where
  len_eq : ps.length = len
  lies : 0 < len → a0 = some ⟨b, off, none⟩ ∧ b < w.heap.size
  one : ∀ (j : Nat) (p : Par), ps[j]? = some p → w.cell? ⟨b, off + j * 2, none⟩ = some (.string p.1)
  two : ∀ (j : Nat) (p : Par), ps[j]? = some p → w.cell? ⟨b, off + j * 2 + 1, none⟩ = some (.string p.2)
theorem Pars.grown {w w' : World} {a0 : Option Addr} {len b off : Nat} {ps : List Par} {row : Option Nat} (h : Pars w a0 len b off ps) (hg : w.grownBy w' row) (hr : 0 < len → some b ≠ row) : Pars w' a0 len b off ps := by
  have hpos : ∀ (j : Nat) (p : Par), ps[j]? = some p → 0 < len := fun j p hp => by
    have := (List.getElem?_eq_some_iff.1 hp).1
    have := h.len_eq
    omega
  exact ⟨h.len_eq, fun h0 => ⟨(h.lies h0).1, Nat.lt_of_lt_of_le (h.lies h0).2 hg.size⟩, fun j p hp => hg.cell (h.one j p hp) (hr (hpos j p hp)), fun j p hp => hg.cell (h.two j p hp) (hr (hpos j p hp))⟩
theorem Pars.below {w w' : World} {a0 : Option Addr} {len b off : Nat} {ps : List Par} (h : Pars w a0 len b off ps) (hb : Below w.heap.size w w') : Pars w' a0 len b off ps :=
  h.grown (row := none) ⟨hb.os, hb.tape, hb.output, hb.size, fun i hi _ => hb.block i hi⟩ (fun _ => by simp)
theorem Pars.belowB {w w' : World} {a0 : Option Addr} {len b off : Nat} {ps : List Par} {B : Nat} (h : Pars w a0 len b off ps) (hb : Below B w w') (hB : 0 < len → b < B) : Pars w' a0 len b off ps := by
  have hpos : ∀ (j : Nat) (p : Par), ps[j]? = some p → b < B := fun j p hp => by
    have := (List.getElem?_eq_some_iff.1 hp).1
    have := h.len_eq
    exact hB (by omega)
  exact ⟨h.len_eq, fun h0 => ⟨(h.lies h0).1, Nat.lt_of_lt_of_le (h.lies h0).2 hb.size⟩, fun j p hp => (hb.cell (p := ⟨b, off + j * 2, none⟩) (hpos j p hp)).trans (h.one j p hp), fun j p hp => (hb.cell (p := ⟨b, off + j * 2 + 1, none⟩) (hpos j p hp)).trans (h.two j p hp)⟩
end Go.Proofs.YtlmfhbffknganabDoor

/- Rows of texts that lie somewhere. -/
namespace Go.Proofs.YtlmfhbffknganabDoor
open Go.RowKit

/-- A row of texts that lies somewhere. -/
structure Strs (w : World) (a0 : Option Addr) (len b off : Nat) (xs : List ByteArray) : Prop where
  len_eq : xs.length = len
  lies : 0 < len → a0 = some ⟨b, off, none⟩ ∧ b < w.heap.size
  cells : ∀ (j : Nat) (x : ByteArray), xs[j]? = some x → w.cell? ⟨b, off + j, none⟩ = some (.string x)
theorem Strs.below {w w' : World} {a0 : Option Addr} {len b off : Nat} {xs : List ByteArray} (h : Strs w a0 len b off xs) (hb : Below w.heap.size w w') : Strs w' a0 len b off xs := by
  refine ⟨h.len_eq, fun h0 => ⟨(h.lies h0).1, Nat.lt_of_lt_of_le (h.lies h0).2 hb.size⟩, fun j x hx => ?_⟩
  have hj := (List.getElem?_eq_some_iff.1 hx).1
  have hl := h.len_eq
  rw [hb.cell (p := ⟨b, off + j, none⟩) (h.lies (by omega)).2]
  exact h.cells j x hx
theorem OwnS.strs {w : World} {B : Nat} {v : Value} {xs : List ByteArray} (h : OwnS w B v xs) : ∃ (a : Option Addr) (cap g : Nat), v = .slice a xs.length cap ∧ Strs w a xs.length g 0 xs := by
  rcases h.2 with ⟨rfl, h0⟩ | ⟨g, cap, cur, rfl, _, hh, _, _, _, ht⟩
  · refine ⟨none, 0, 0, by rw [h0], rfl, fun h1 => absurd h0 (by omega), fun j x hx => ?_⟩
    have := (List.getElem?_eq_some_iff.1 hx).1
    omega
  · refine ⟨_, cap, g, rfl, rfl, fun _ => ⟨rfl, ?_⟩, fun j x hx => ?_⟩
    · rcases Nat.lt_or_ge g w.heap.size with h1 | h1
      · exact h1
      · simp [Array.getElem?_eq_none h1] at hh
    · have hj := World.ownsRow.cells h (g := g) rfl j (.string x) (by rw [List.getElem?_map, hx]; rfl)
      rw [WideShapes.add_plain] at hj
      exact hj
theorem Strs.drewN {w : World} {a0 : Option Addr} {len b off : Nat} {xs : List ByteArray} (h : Strs w a0 len b off xs) (n : Nat) : Strs (w.drewN n) a0 len b off xs := ⟨h.len_eq, h.lies, h.cells⟩
end Go.Proofs.YtlmfhbffknganabDoor

/- Which headers must be asked for, by the program. -/
namespace Go.Proofs.YtlmfhbffknganabDoor
open Go.RowKit

/-- Two rows of texts, each in blocks of its own. -/
structure Two (w : World) (B : Nat) (u v : Value) (xs ys : List ByteArray) : Prop where
  one : OwnS w B u xs
  two : OwnS w B v ys
  apart : ∀ k, u.ownBlock = some k → v.ownBlock ≠ some k
theorem Two.swap {w : World} {B : Nat} {u v : Value} {xs ys : List ByteArray} (h : Two w B u v xs ys) : Two w B v u ys xs := ⟨h.two, h.one, fun k h1 h2 => h.apart k h2 h1⟩
theorem Two.below {w w' : World} {B : Nat} {u v : Value} {xs ys : List ByteArray} (h : Two w B u v xs ys) (hb : Below w.heap.size w w') : Two w' B u v xs ys := ⟨h.one.below hb, h.two.below hb, h.apart⟩
theorem OwnS.other {w w' : World} {B : Nat} {u v : Value} {xs : List ByteArray} (h : OwnS w B v xs) (hg : w.grownBy w' u.ownBlock) (ha : ∀ k, u.ownBlock = some k → v.ownBlock ≠ some k) : OwnS w' B v xs := by
  rcases hu : u.ownBlock with _ | k
  · rw [hu] at hg
    refine World.ownsRow.kept h hg ?_
    rcases v.ownBlock with _ | j
    · exact .inl rfl
    · exact .inr (by simp)
  · rw [hu] at hg
    exact World.ownsRow.kept h hg (.inr (ha k hu))
/-- One text more at the first of two rows. -/
theorem wp_app2 {ops : Array Oper} {rest : List Oper} {o : Oper} {a : Act} {Q : Exit → Act → World → Prop} (hgd : o.guard = none) (s x : Operand)
    (ho : o.op = .call { callee := .builtin .append, args := #[s, x], argTypes := #[27, 27] })
    (B : Nat) (wr : World) (u v : Value) (xs ys : List ByteArray) (n : Nat) (hs : a.eval s = u) (hown : Two wr B u v xs ys) (hn : xs.length = n) (hl : n ≤ 100000) (hB : B ≤ wr.heap.size)
    (t : ByteArray) (hx : a.eval x = .slice (some ⟨wr.heap.size, 0, none⟩) 1 1)
    (h : ∀ g cap w', Two w' B (.slice (some ⟨g, 0, none⟩) (n + 1) cap) v (xs ++ [t]) ys → Below B wr w' → (∀ j, j < wr.heap.size → u.ownBlock ≠ some j → w'.heap[j]? = wr.heap[j]?) → wpList Tryd.prog ops Q rest (a.put o.dst (.slice (some ⟨g, 0, none⟩) (n + 1) cap)) w') :
    wpList Tryd.prog ops Q (o :: rest) a (wr.alloc (.cells #[.string t] 9)) := by
  subst hn
  obtain ⟨i0, hi0, hz0, hz1, hz2⟩ := info_parts info9
  refine wpList_append_lies _ hgd s x 27 ho B 9 i0 (.string ⟨#[]⟩) 1 16 Tryd.underlying27 hi0 hz0 hz1 hz2 rfl (by omega) u xs.length _ hs (World.ownsRow.alloc hown.one _) ⟨wr.heap.size, 0, none⟩ 1 1 [.string t] hx rfl
    (World.news_of_block (cs := #[.string t]) (t := 9) (fr := (0, 0)) (heap_alloc_new wr _)) (by simp [Value.oneCell']) (by omega) (by unfold maxLen; omega) (by omega) (by simp; omega) _ rfl ?_
  intro g cap w' hown1 hgrow hgw hlt
  have hb0 : Below wr.heap.size wr (wr.alloc (.cells #[.string t] 9)) := (Below.refl _ _).alloc (Nat.le_refl _) _
  refine h g cap w' ⟨?_, ?_, ?_⟩ ?_ ?_
  · unfold OwnS
    rw [List.length_append, List.map_append]
    exact hown1
  · exact (hown.two.below hb0).other hgrow hown.apart
  · intro k hk hvk
    have hkg : g = k := by simpa [Value.ownBlock] using hk
    subst hkg
    rcases hgw with e | e
    · exact hown.apart g e hvk
    · have := (hown.two.lt g hvk).2
      simp at e
      omega
  · exact ((Below.refl B wr).alloc hB _).grown hgrow (by simp; omega) (fun k hk => (hown.one.lt k hk).1)
  · intro j hj hne
    exact (hgrow.block j (by simp; omega) (fun e => hne e.symm)).trans (hb0.block j hj)
/-- All texts of the second row behind those of the first. -/
theorem wp_appAll {ops : Array Oper} {rest : List Oper} {o : Oper} {a : Act} {Q : Exit → Act → World → Prop} (hgd : o.guard = none) (s x : Operand)
    (ho : o.op = .call { callee := .builtin .append, args := #[s, x], argTypes := #[27, 27] })
    (B : Nat) (wr : World) (u v : Value) (xs ys : List ByteArray) (n m : Nat) (hs : a.eval s = u) (hx : a.eval x = v) (hown : Two wr B u v xs ys) (hn : xs.length = n) (hm : ys.length = m) (h0 : 0 < m) (hl : n + m ≤ 100000) (hB : B ≤ wr.heap.size)
    (h : ∀ g cap w', OwnS w' B (.slice (some ⟨g, 0, none⟩) (n + m) cap) (xs ++ ys) → Below B wr w' → wpList Tryd.prog ops Q rest (a.put o.dst (.slice (some ⟨g, 0, none⟩) (n + m) cap)) w') :
    wpList Tryd.prog ops Q (o :: rest) a wr := by
  subst hn hm
  obtain ⟨i0, hi0, hz0, hz1, hz2⟩ := info_parts info9
  rcases hown.two.2 with ⟨_, e⟩ | ⟨gv, cv, cur, rfl, hbv, hhv, h1, h2, h3, h4⟩
  · omega
  · refine wpList_append_lies _ hgd s x 27 ho B 9 i0 (.string ⟨#[]⟩) 1 16 Tryd.underlying27 hi0 hz0 hz1 hz2 rfl (by omega) u xs.length _ hs hown.one ⟨gv, 0, none⟩ ys.length cv (ys.map Value.string) hx (by simp)
      (fun j q hj => World.ownsRow.cells hown.two (g := gv) rfl j q hj) (fun q hq => by obtain ⟨b, _, rfl⟩ := List.mem_map.1 hq; rfl) h0 (by unfold maxLen; omega) (by omega) hB _ rfl ?_
    intro g cap w' hown1 hgrow hgw hlt
    refine h g cap w' ?_ ((Below.refl B wr).grown hgrow hB (fun k hk => (hown.one.lt k hk).1))
    unfold OwnS
    rw [List.length_append, List.map_append]
    exact hown1
def lowN (p : Par) : ByteArray := bs (p.1.data.toList.map low)
def plain8 (p : Par) : Bool := plainL p.1.data.toList p.2.data.toList
/-- The names of those that aren't plain, and of those that are, in their order; how many bytes of values the latter have. -/
def notPlain (ps : List Par) : List ByteArray := (ps.filter fun p => !plain8 p).map lowN
def arePlain (ps : List Par) : List ByteArray := (ps.filter fun p => plain8 p).map lowN
def together (ps : List Par) : Nat := ((ps.filter fun p => plain8 p).map fun p => p.2.size).sum
def askedNames (ps : List Par) : List ByteArray := if 1024 < together ps then notPlain ps ++ arePlain ps else notPlain ps
def askedL (ps : List Par) : List ByteArray := (Lib.compact (sortL (tx (askedNames ps)))).map bs
theorem take_next (ps : List Par) (k : Nat) (p : Par) (h : ps[k]? = some p) : ps.take (k + 1) = ps.take k ++ [p] := by
  obtain ⟨hk, e⟩ := List.getElem?_eq_some_iff.1 h
  rw [List.take_succ_eq_append_getElem hk, e]
theorem notPlain_yes (ps : List Par) (k : Nat) (p : Par) (h : ps[k]? = some p) (hp : plain8 p = true) : notPlain (ps.take (k + 1)) = notPlain (ps.take k) ∧ arePlain (ps.take (k + 1)) = arePlain (ps.take k) ++ [lowN p] ∧ together (ps.take (k + 1)) = together (ps.take k) + p.2.size := by
  unfold notPlain arePlain together
  rw [take_next ps k p h]
  simp [List.filter_append, hp]
theorem notPlain_no (ps : List Par) (k : Nat) (p : Par) (h : ps[k]? = some p) (hp : plain8 p = false) : notPlain (ps.take (k + 1)) = notPlain (ps.take k) ++ [lowN p] ∧ arePlain (ps.take (k + 1)) = arePlain (ps.take k) ∧ together (ps.take (k + 1)) = together (ps.take k) := by
  unfold notPlain arePlain together
  rw [take_next ps k p h]
  simp [List.filter_append, hp]
theorem sum_le (l : List Nat) (m : Nat) (h : ∀ x ∈ l, x ≤ m) : l.sum ≤ l.length * m := by
  induction l with
  | nil => simp
  | cons a t ih =>
    have h1 := h a (by simp)
    have h2 := ih (fun x hx => h x (by simp [hx]))
    rw [List.sum_cons, List.length_cons, Nat.succ_mul]
    omega
theorem plain_short (p : Par) (h : plain8 p = true) : p.2.size ≤ 128 := by
  unfold plain8 plainL at h
  rw [Bool.and_eq_true] at h
  have := of_decide_eq_true h.1
  have e : p.2.data.toList.length = p.2.size := Array.length_toList
  omega
theorem together_le (ps : List Par) : together ps ≤ ps.length * 128 := by
  unfold together
  refine Nat.le_trans (sum_le _ 128 ?_) (Nat.mul_le_mul_right _ ?_)
  · intro x hx
    obtain ⟨p, hp, rfl⟩ := List.mem_map.1 hx
    exact plain_short p (by simpa using (List.mem_filter.1 hp).2)
  · rw [List.length_map]; exact List.length_filter_le _ _
theorem lens_le (ps : List Par) : (notPlain ps).length + (arePlain ps).length = ps.length := by
  unfold notPlain arePlain
  rw [List.length_map, List.length_map]
  induction ps with
  | nil => rfl
  | cons p r ih =>
    cases h : plain8 p
    · rw [List.filter_cons_of_pos (by simp [h]), List.filter_cons_of_neg (by simp [h])]
      simp only [List.length_cons]
      omega
    · rw [List.filter_cons_of_neg (by simp [h]), List.filter_cons_of_pos (by simp [h])]
      simp only [List.length_cons]
      omega
theorem together_none (ps : List Par) (h : (arePlain ps).length = 0) : together ps = 0 := by
  unfold arePlain at h
  unfold together
  rw [List.length_map] at h
  rw [List.eq_nil_of_length_eq_zero h]
  rfl
end Go.Proofs.YtlmfhbffknganabDoor

/- Which headers must be asked for, by the program: the walk. -/
namespace Go.Proofs.YtlmfhbffknganabDoor
open Go.RowKit Go.Shelf

/-- The headers are small, and few. -/
def Small8 (ps : List Par) : Prop := ∀ p ∈ ps, p.1.size ≤ 3000 ∧ p.2.size ≤ 3000
def AskInv (w : World) (ps : List Par) (k : Nat) (u v : Value) (W : World) : Prop :=
  Two W w.heap.size u v (notPlain (ps.take k)) (arePlain (ps.take k)) ∧ Below w.heap.size w W
theorem OwnS.slice {w : World} {B : Nat} {v : Value} {xs : List ByteArray} (h : OwnS w B v xs) : ∃ a cap, v = .slice a xs.length cap := by
  obtain ⟨a, cap, _, e, _⟩ := h.strs
  exact ⟨a, cap, e⟩
set_option maxRecDepth 100000 in
set_option maxHeartbeats 8000000 in
theorem asked8_any (ps : List Par) (hps : Small8 ps) (a0 : Option Addr) (len cap b off : Nat) (hlen : len ≤ 60) (w : World) (hx : Pars w a0 len b off ps) :
    Calls Tryd.prog 7 #[.slice a0 len cap] w fun e w' => (∃ v, e = .returned v ∧ OwnS w' w.heap.size v (askedL ps)) ∧ Below w.heap.size w w' := by
  have HX : Hid (Pars w a0 len b off ps) := hx
  have HP : Hid (Small8 ps) := hps
  have HL : Hid (ps.length = len) := hx.len_eq
  clear hx hps
  go_enter Tryd.func7, Tryd.ntmps7
  go_wp2
  go_loopw [3, 4, 5, 11] (fun su sv t i wr => ∃ (k : Nat) (tg : Nat) (u v : Value), k ≤ len ∧ u = su ∧ v = sv ∧ i = .int .i64 k ∧ t = .int .i64 tg ∧ tg ≤ 10000 ∧ Hid (tg = together (ps.take k)) ∧ Hid (AskInv w ps k u v wr)) (fun _ _ _ i _ => len - (intOf i).toNat)
  case atStart => exact ⟨0, 0, _, _, Nat.zero_le _, rfl, rfl, rfl, rfl, by omega, rfl, ⟨⟨ownS_nil _ _, ownS_nil _ _, fun k h => by cases h⟩, Below.refl _ _⟩⟩
  case round =>
    obtain ⟨k, tg, u, v, hk, rfl, rfl, rfl, rfl, htg, HT, HI⟩ := hrel
    by_cases hlt : k < len
    · have hltz : (k : Int) < (len : Int) := by omega
      obtain ⟨p, hp⟩ : ∃ p, ps[k]? = some p := ⟨ps[k]'(by have := HL.out; omega), List.getElem?_eq_getElem _⟩
      obtain ⟨pn, pv⟩ := p
      have HPK : Hid (ps[k]? = some (pn, pv)) := hp
      have hpz := HP.out _ (List.mem_of_getElem? hp)
      have hpz1 : pn.size ≤ 3000 := hpz.1
      have hpz2 : pv.size ≤ 3000 := hpz.2
      obtain ⟨ha0, _⟩ := HX.out.lies (by omega)
      subst ha0
      have hXr := HX.out.below HI.out.2
      have c1 : wr.cell? ⟨b, off + k * 2, none⟩ = some (.string pn) := hXr.one k _ hp
      have c2 : wr.cell? ⟨b, off + k * 2 + 1, none⟩ = some (.string pv) := hXr.two k _ hp
      have HW0 : Hid (∀ w', Below (wr.alloc (.cells #[.string pn, .string pv] 24)).heap.size (wr.alloc (.cells #[.string pn, .string pv] 24)) w' → AskInv w ps k u v w' ∧ w'.heap[wr.heap.size]? = some (.cells #[.string pn, .string pv] 24 (0, 0))) := fun w' hb => by
        have hb0 : Below wr.heap.size wr (wr.alloc (.cells #[.string pn, .string pv] 24)) := (Below.refl _ _).alloc (Nat.le_refl _) _
        have hb1 : Below wr.heap.size wr w' := hb0.trans (hb.mono (by simp))
        exact ⟨⟨HI.out.1.below hb1, HI.out.2.trans (hb1.mono HI.out.2.size)⟩, (hb.block _ (by simp)).trans (heap_alloc_new wr _)⟩
      obtain ⟨x, HN⟩ : ∃ x : ByteArray, Hid (bs (pn.data.toList.map low) = x) := ⟨_, rfl⟩
      have HVB : Hid ((∀ j, u.ownBlock = some j → j < wr.heap.size) ∧ (∀ j, v.ownBlock = some j → j < wr.heap.size)) := ⟨fun j h => (HI.out.1.one.lt j h).2, fun j h => (HI.out.1.two.lt j h).2⟩
      clear hp hpz hXr HI
      go_wp2_with fail
      refine (lower_any pn _ (by omega)).mono ?_
      rintro e w1 ⟨rfl, hb1⟩
      rw [HN.out]
      have HW1 : Hid (AskInv w ps k u v w1 ∧ w1.heap[wr.heap.size]? = some (.cells #[.string pn, .string pv] 24 (0, 0))) := HW0.out _ hb1
      clear hb1 HW0 c1 c2
      obtain ⟨x0, x1, _⟩ := two_at HW1.out.2
      obtain ⟨q, HQ⟩ : ∃ q, Hid (plainL pn.data.toList pv.data.toList = q) := ⟨_, rfl⟩
      go_wp2_with fail
      refine (plain_any pn pv (by omega) (by omega) _).mono ?_
      rintro e w2 ⟨rfl, hb2⟩
      rw [HQ.out]
      have HW2 : Hid (AskInv w ps k u v w2 ∧ w2.heap[wr.heap.size]? = some (.cells #[.string pn, .string pv] 24 (0, 0))) := ⟨⟨HW1.out.1.1.below hb2, HW1.out.1.2.trans (hb2.mono HW1.out.1.2.size)⟩, (hb2.block _ (Array.getElem?_eq_some_iff.1 HW1.out.2).1).trans HW1.out.2⟩
      clear hb2 x0 x1 HW1
      have hlens : (notPlain (ps.take k)).length + (arePlain (ps.take k)).length ≤ 60 := by
        have h1 := lens_le (ps.take k)
        have h2 : (ps.take k).length ≤ k := List.length_take_le _ _
        omega
      obtain ⟨au, cu, rfl⟩ := HW2.out.1.1.one.slice
      obtain ⟨av, cv, rfl⟩ := HW2.out.1.1.two.slice
      obtain ⟨nu, HNU⟩ : ∃ n, Hid ((notPlain (ps.take k)).length = n) := ⟨_, rfl⟩
      obtain ⟨nv, HNV⟩ : ∃ n, Hid ((arePlain (ps.take k)).length = n) := ⟨_, rfl⟩
      rw [HNU.out, HNV.out] at hlens
      rw [HNU.out, HNV.out] at HW2 HVB ⊢
      cases q
      · have HS := notPlain_no ps k _ HPK.out HQ.out
        have HNX : Hid (lowN (pn, pv) = x) := HN.out
        go_wp2_with (at_builtin; refine wp_app2 rfl _ _ rfl w.heap.size w2 (.slice au nu cu) (.slice av nv cv) _ _ nu rfl HW2.out.1.1 HNU.out (by omega) HW2.out.1.2.size x rfl ?_; intro g4 cap4 w4 hown4 hb4 hk4; have HW4 : Hid (Two w4 w.heap.size (.slice (some ⟨g4, 0, none⟩) (nu + 1) cap4) (.slice av nv cv) (notPlain (ps.take k) ++ [x]) (arePlain (ps.take k)) ∧ Below w.heap.size w w4) := ⟨hown4, HW2.out.1.2.trans hb4⟩; clear hown4 hb4 hk4)
        go_roundw
        case rel => exact ⟨k + 1, tg, _, _, by omega, rfl, rfl, by go_num, rfl, htg, by rw [HS.2.2]; exact HT, ⟨by rw [HS.1, HS.2.1, HNX.out]; exact HW4.out.1, HW4.out.2⟩⟩
        case measure => simp [intOf]; omega
      · have HS := notPlain_yes ps k _ HPK.out HQ.out
        have HNX : Hid (lowN (pn, pv) = x) := HN.out
        have htn : tg + pv.size ≤ 10000 := by
          have h1 := together_le (ps.take (k + 1))
          have h2 : (ps.take (k + 1)).length ≤ k + 1 := List.length_take_le _ _
          have h3 := HS.2.2
          have h4 : tg = together (ps.take k) := HT
          simp only at h3
          omega
        go_wp2_with (at_builtin; refine wp_app2 rfl _ _ rfl w.heap.size w2 (.slice av nv cv) (.slice au nu cu) _ _ nv rfl HW2.out.1.1.swap HNV.out (by omega) HW2.out.1.2.size x rfl ?_; intro g4 cap4 w4 hown4 hb4 hk4; have HW4 : Hid (Two w4 w.heap.size (.slice au nu cu) (.slice (some ⟨g4, 0, none⟩) (nv + 1) cap4) (notPlain (ps.take k)) (arePlain (ps.take k) ++ [x]) ∧ Below w.heap.size w w4) := ⟨hown4.swap, HW2.out.1.2.trans hb4⟩; have x1 := (two_at ((hk4 wr.heap.size (Array.getElem?_eq_some_iff.1 HW2.out.2).1 (fun e => Nat.lt_irrefl _ (HVB.out.2 _ e))).trans HW2.out.2)).2.1; clear hown4 hb4 hk4)
        go_roundw
        case rel => exact ⟨k + 1, tg + pv.size, _, _, by omega, rfl, rfl, by go_num, by go_num, htn, by rw [HS.2.2]; show tg + pv.size = _ + pv.size; rw [HT.out], ⟨by rw [HS.1, HS.2.1, HNX.out]; exact HW4.out.1, HW4.out.2⟩⟩
        case measure => simp [intOf]; omega
    · have hltz : ¬ (k : Int) < (len : Int) := by omega
      have HE : Hid (Two wr w.heap.size u v (notPlain ps) (arePlain ps) ∧ Below w.heap.size w wr ∧ tg = together ps) := by
        have h1 := HI.out
        have h2 : tg = together (ps.take k) := HT
        unfold AskInv at h1
        rw [List.take_of_length_le (by have := HL.out; omega)] at h1 h2
        exact ⟨h1.1, h1.2, h2⟩
      have hlens : (notPlain ps).length + (arePlain ps).length ≤ 60 := by
        have h1 := lens_le ps
        have := HL.out
        omega
      clear HI HT
      obtain ⟨au, cu, rfl⟩ := HE.out.1.one.slice
      obtain ⟨av, cv, rfl⟩ := HE.out.1.two.slice
      obtain ⟨nu, HNU⟩ : ∃ n, Hid ((notPlain ps).length = n) := ⟨_, rfl⟩
      obtain ⟨nv, HNV⟩ : ∃ n, Hid ((arePlain ps).length = n) := ⟨_, rfl⟩
      rw [HNU.out, HNV.out] at hlens
      rw [HNU.out, HNV.out] at HE ⊢
      go_upto_if 35 with fail
      go_cut [3] (fun s3 wc => ∃ u' : Value, u' = s3 ∧ Hid (OwnS wc w.heap.size u' (askedNames ps) ∧ Below w.heap.size w wc))
      case first =>
        by_cases hbig : 1024 < tg
        · have hbz : (1024 : Int) < (tg : Int) := by omega
          have HN : Hid (askedNames ps = notPlain ps ++ arePlain ps) := by
            show _ = _
            unfold askedNames
            rw [if_pos (by rw [← HE.out.2.2]; exact hbig)]
          have hn0 : 0 < nv := by
            rcases Nat.eq_zero_or_pos nv with h0 | h0
            · have h1 := together_none ps (by rw [HNV.out]; exact h0)
              have h2 := HE.out.2.2
              omega
            · exact h0
          go_wp2_with (at_builtin; refine wp_appAll rfl _ _ rfl w.heap.size wr (.slice au nu cu) (.slice av nv cv) _ _ nu nv rfl rfl HE.out.1 HNU.out HNV.out hn0 (by omega) HE.out.2.1.size ?_; intro g4 cap4 w4 hown4 hb4; have HW4 : Hid (OwnS w4 w.heap.size (.slice (some ⟨g4, 0, none⟩) (nu + nv) cap4) (notPlain ps ++ arePlain ps) ∧ Below w.heap.size w w4) := ⟨hown4, HE.out.2.1.trans hb4⟩; clear hown4 hb4)
          go_meet
          exact ⟨_, rfl, by rw [HN.out]; exact HW4⟩
        · have hbz : ¬ (1024 : Int) < (tg : Int) := by omega
          have HN : Hid (askedNames ps = notPlain ps) := by
            show _ = _
            unfold askedNames
            rw [if_neg (by rw [← HE.out.2.2]; exact hbig)]
          go_wp2
          go_meet
          exact ⟨_, rfl, by rw [HN.out]; exact ⟨HE.out.1.one, HE.out.2.1⟩⟩
      case rest =>
      obtain ⟨u', rfl, HC⟩ := hcut
      have hal : (askedNames ps).length ≤ 1000000 := by
        unfold askedNames
        split
        · rw [List.length_append, HNU.out, HNV.out]; omega
        · rw [HNU.out]; omega
      clear HE hlens
      go_wp2_with fail
      refine (sort_own _ w.heap.size u' _ HC.out.1 hal).mono ?_
      rintro e w5 ⟨rfl, hown5, hg5⟩
      have HW5 : Hid (OwnS w5 w.heap.size u' ((sortL (tx (askedNames ps))).map bs) ∧ Below w.heap.size w w5) := ⟨hown5, HC.out.2.grown hg5 HC.out.2.size (fun j hj => (HC.out.1.lt j hj).1)⟩
      clear hown5 hg5
      go_wp2_with fail
      refine (compact_own _ w.heap.size u' _ HW5.out.1 (by rw [List.length_map, sortL_len]; unfold tx; rw [List.length_map]; exact hal)).mono ?_
      rintro e w6 ⟨⟨v6, rfl, hown6⟩, hg6⟩
      have HW6 : Hid (OwnS w6 w.heap.size v6 (askedL ps) ∧ Below w.heap.size w w6) := by
        rw [tx_bs] at hown6
        exact ⟨hown6, HW5.out.2.grown hg6 HW5.out.2.size (fun j hj => (HW5.out.1.lt j hj).1)⟩
      clear hown6 hg6
      go_wp2
      go_ret
      exact ⟨⟨v6, rfl, HW6.out.1⟩, HW6.out.2⟩
end Go.Proofs.YtlmfhbffknganabDoor

/- The library's contracts that are leant on, laid at this program's numbers. -/
namespace Go.Proofs.YtlmfhbffknganabDoor
open Go.Shelf Go.RowKit
def lays193_ren : Go.Shelf.Ren := ⟨fun | 193 => 14 | n => n, fun | 31 => 27 | 9 => 9 | 4 => 4 | 3 => 3 | 0 => 0 | n => n, fun | n => n⟩
theorem lays193 : Go.Proofs.Lays.n193 Tryd.prog lays193_ren := {
  mixed := by kernel_rfl
  f193 := Tryd.func14.trans (congrArg some (by kernel_rfl))
  t0 := Tryd.underlying0
  a0 := Tryd.isAgg0
  z0 := Tryd.sizeOf0
  v0 := Tryd.zeroValue0
  t3 := Tryd.underlying3
  a3 := Tryd.isAgg3
  z3 := Tryd.sizeOf3
  v3 := Tryd.zeroValue3
  t4 := Tryd.underlying4
  a4 := Tryd.isAgg4
  z4 := Tryd.sizeOf4
  v4 := Tryd.zeroValue4
  t9 := Tryd.underlying9
  a9 := Tryd.isAgg9
  z9 := Tryd.sizeOf9
  v9 := Tryd.zeroValue9
  t31 := Tryd.underlying27
  a31 := Tryd.isAgg27
  z31 := Tryd.sizeOf27
  v31 := Tryd.zeroValue27 }
end Go.Proofs.YtlmfhbffknganabDoor

/- Two rows of the same texts are equal, by the library's own function. -/
namespace Go.Proofs.YtlmfhbffknganabDoor
open Go.RowKit Go.Shelf

theorem equal_same (a1 a2 : Option Addr) (n c b1 o1 d b2 o2 : Nat) (xs : List ByteArray) (w : World) (hn : n ≤ 1000000) (h1 : Strs w a1 n b1 o1 xs) (h2 : Strs w a2 n b2 o2 xs) :
    Calls Tryd.prog 14 #[.slice a1 n c, .slice a2 n d] w fun e w' => e = .returned (.bool true) ∧ ∃ q, w' = w.drewN q := by
  by_cases h0 : n = 0
  · subst h0
    refine (Any.slices_Equal_string_empty lays193 a1 a2 c 0 d w (by omega)).mono ?_
    rintro e w' ⟨rfl, rfl⟩
    exact ⟨rfl, 0, rfl⟩
  · obtain ⟨rfl, _⟩ := h1.lies (by omega)
    obtain ⟨rfl, _⟩ := h2.lies (by omega)
    have hl := h1.len_eq
    have hc : ∀ (b o : Nat), (∀ (j : Nat) (x : ByteArray), xs[j]? = some x → w.cell? ⟨b, o + j, none⟩ = some (.string x)) → ∀ j, j < xs.length → w.cell? ⟨b, o + j, none⟩ = some (.string (xs.getD j ByteArray.empty)) := by
      intro b o h j hj
      have : xs[j]? = some xs[j] := List.getElem?_eq_getElem hj
      rw [h j _ this]
      simp [List.getD, this]
    refine (Any.slices_Equal_string lays193 b1 o1 n c b2 o2 n d xs xs w (by omega) (by omega) (by omega) (by omega) (hc b1 o1 h1.cells) (hc b2 o2 h2.cells)).mono ?_
    rintro e w' ⟨rfl, hq⟩
    exact ⟨by simp, hq⟩
end Go.Proofs.YtlmfhbffknganabDoor

/- The fact that headers are asked for. -/
namespace Go.Proofs.YtlmfhbffknganabDoor
open Go.RowKit Go.Shelf

theorem sortL_is {a b : List (List UInt8)} (hp : a.Perm b) (hs : b.Pairwise fun x y => x ≤ y) : sortL a = b :=
  List.Perm.eq_of_pairwise (le := fun a b => a ≤ b) (fun _ _ _ _ h1 h2 => List.le_antisymm h1 h2) (sortL_sorted a) hs ((sortL_perm a).trans hp)
def four8 : List Par := [(⟨#[88, 45, 66]⟩, ⟨#[]⟩), (⟨#[65, 99, 99, 101, 112, 116]⟩, ⟨#[97, 47, 98]⟩), (⟨#[120, 45, 97]⟩, ⟨#[]⟩), (⟨#[88, 45, 98]⟩, ⟨#[]⟩)]
theorem four8_names : tx (askedNames four8) = [[120, 45, 98], [120, 45, 97], [120, 45, 98]] := by decide +kernel
theorem four8_asked : askedL four8 = [⟨#[120, 45, 97]⟩, ⟨#[120, 45, 98]⟩] := by
  unfold askedL
  rw [four8_names, sortL_is (b := [[120, 45, 97], [120, 45, 98], [120, 45, 98]]) (by decide) (by decide)]
  decide +kernel
theorem four8_small : Small8 four8 := by
  unfold Small8
  decide +kernel
theorem pars_four (w : World) (W : World) (hW : W.heap[w.heap.size]? = some (.cells #[.string ⟨#[88, 45, 66]⟩, .string ⟨#[]⟩, .string ⟨#[65, 99, 99, 101, 112, 116]⟩, .string ⟨#[97, 47, 98]⟩, .string ⟨#[120, 45, 97]⟩, .string ⟨#[]⟩, .string ⟨#[88, 45, 98]⟩, .string ⟨#[]⟩] 24 (0, 0))) : Pars W (some ⟨w.heap.size, 0, none⟩) 4 w.heap.size 0 four8 := by
  have hlt := (Array.getElem?_eq_some_iff.1 hW).1
  refine ⟨rfl, fun _ => ⟨rfl, hlt⟩, fun j p hp => ?_, fun j p hp => ?_⟩
  · match j, hp with
    | 0, hp => cases hp; simp [World.cell?, hW]
    | 1, hp => cases hp; simp [World.cell?, hW]
    | 2, hp => cases hp; simp [World.cell?, hW]
    | 3, hp => cases hp; simp [World.cell?, hW]
    | j + 4, hp => simp [four8] at hp
  · match j, hp with
    | 0, hp => cases hp; simp [World.cell?, hW]
    | 1, hp => cases hp; simp [World.cell?, hW]
    | 2, hp => cases hp; simp [World.cell?, hW]
    | 3, hp => cases hp; simp [World.cell?, hW]
    | j + 4, hp => simp [four8] at hp
theorem strs8_two (W : World) (x y : ByteArray) : Strs (W.alloc (.cells #[.string x, .string y] 9)) (some ⟨W.heap.size, 0, none⟩) 2 W.heap.size 0 [x, y] := by
  refine ⟨rfl, fun _ => ⟨rfl, by simp⟩, fun j p hp => ?_⟩
  match j, hp with
  | 0, hp => cases hp; exact World.cell?_alloc_mark _ _ _ _ _
  | 1, hp => cases hp; exact World.cell?_alloc_mark _ _ _ _ _
  | j + 2, hp => simp at hp
theorem put_is : methodB ⟨#[112, 117, 116]⟩ = ⟨#[80, 85, 84]⟩ := by decide +kernel
theorem patch_is : methodB ⟨#[112, 97, 116, 99, 104]⟩ = ⟨#[112, 97, 116, 99, 104]⟩ := by decide +kernel
theorem simple_get : simpleL (⟨#[71, 69, 84]⟩ : ByteArray).toList = true := by decide +kernel
theorem simple_put : simpleL (⟨#[80, 85, 84]⟩ : ByteArray).toList = false := by decide +kernel
set_option maxRecDepth 100000 in
set_option maxHeartbeats 4000000 in
theorem fetched_any (w : World) (hm : Methods w) : Calls Tryd.prog 4 #[] w fun e w' => e = .returned (.bool true) ∧ Below w.heap.size w w' := by
  have HN : Hid (∀ w', Below (w.alloc (.cells #[.string ⟨#[88, 45, 66]⟩, .string ⟨#[]⟩, .string ⟨#[65, 99, 99, 101, 112, 116]⟩, .string ⟨#[97, 47, 98]⟩, .string ⟨#[120, 45, 97]⟩, .string ⟨#[]⟩, .string ⟨#[88, 45, 98]⟩, .string ⟨#[]⟩] 24)).heap.size (w.alloc (.cells #[.string ⟨#[88, 45, 66]⟩, .string ⟨#[]⟩, .string ⟨#[65, 99, 99, 101, 112, 116]⟩, .string ⟨#[97, 47, 98]⟩, .string ⟨#[120, 45, 97]⟩, .string ⟨#[]⟩, .string ⟨#[88, 45, 98]⟩, .string ⟨#[]⟩] 24)) w' → Below w.heap.size w w' ∧ Methods w' ∧ w'.heap[w.heap.size]? = some (.cells #[.string ⟨#[88, 45, 66]⟩, .string ⟨#[]⟩, .string ⟨#[65, 99, 99, 101, 112, 116]⟩, .string ⟨#[97, 47, 98]⟩, .string ⟨#[120, 45, 97]⟩, .string ⟨#[]⟩, .string ⟨#[88, 45, 98]⟩, .string ⟨#[]⟩] 24 (0, 0))) := fun w' hb => by
    have hb0 : Below w.heap.size w (w.alloc (.cells #[.string ⟨#[88, 45, 66]⟩, .string ⟨#[]⟩, .string ⟨#[65, 99, 99, 101, 112, 116]⟩, .string ⟨#[97, 47, 98]⟩, .string ⟨#[120, 45, 97]⟩, .string ⟨#[]⟩, .string ⟨#[88, 45, 98]⟩, .string ⟨#[]⟩] 24)) := (Below.refl _ _).alloc (Nat.le_refl _) _
    have hb1 := hb0.trans (hb.mono (by simp))
    exact ⟨hb1, hm.below hb1 (Nat.le_refl _), (hb.block _ (by simp)).trans (heap_alloc_new w _)⟩
  clear hm
  go_enter Tryd.func4, Tryd.ntmps4
  go_wp2_with fail
  generalize hW0 : w.alloc (.cells #[.string ⟨#[88, 45, 66]⟩, .string ⟨#[]⟩, .string ⟨#[65, 99, 99, 101, 112, 116]⟩, .string ⟨#[97, 47, 98]⟩, .string ⟨#[120, 45, 97]⟩, .string ⟨#[]⟩, .string ⟨#[88, 45, 98]⟩, .string ⟨#[]⟩] 24) = W0 at HN ⊢
  clear hW0
  refine (simple_any _ _).mono ?_
  rintro e w' ⟨rfl, hw⟩
  obtain rfl := hw.symm
  rw [simple_get]
  go_wp2_with fail
  refine (simple_any _ _).mono ?_
  rintro e w' ⟨rfl, hw⟩
  obtain rfl := hw.symm
  rw [simple_put]
  go_wp2_with fail
  refine (method_any _ (by decide) _ (HN.out _ (Below.refl _ _)).2.1).mono ?_
  rintro e w1 ⟨rfl, hb1⟩
  rw [put_is]
  go_wp2_with fail
  refine (method_any _ (by decide) _ (HN.out _ hb1).2.1).mono ?_
  rintro e w2 ⟨rfl, hb2⟩
  rw [patch_is]
  have HB2 : Hid (Below W0.heap.size W0 w2) := hb1.trans (hb2.mono hb1.size)
  clear hb1 hb2
  go_wp2_with fail
  refine (asked8_any four8 four8_small _ 4 _ _ _ (by decide) _ (pars_four w w2 (HN.out _ HB2.out).2.2)).mono ?_
  rintro e w3 ⟨⟨v, rfl, hown⟩, hb3⟩
  rw [four8_asked] at hown
  have HB3 : Hid (Below W0.heap.size W0 w3) := HB2.out.trans (hb3.mono HB2.out.size)
  clear hb3
  obtain ⟨a, c, g, rfl, hst⟩ := hown.strs
  simp only [List.length_cons, List.length_nil, Nat.zero_add, Nat.reduceAdd] at hst ⊢
  have HS : Hid (Strs (w3.alloc (.cells #[.string ⟨#[120, 45, 97]⟩, .string ⟨#[120, 45, 98]⟩] 9)) a 2 g 0 [⟨#[120, 45, 97]⟩, ⟨#[120, 45, 98]⟩]) := hst.below ((Below.refl _ _).alloc (Nat.le_refl _) _)
  clear hown hst
  go_wp2_with fail
  refine (equal_same a _ 2 c g 0 _ _ 0 [⟨#[120, 45, 97]⟩, ⟨#[120, 45, 98]⟩] _ (by decide) HS.out (strs8_two w3 _ _)).mono ?_
  rintro e w4 ⟨rfl, q, rfl⟩
  go_wp2
  go_ret
  refine ⟨rfl, ?_⟩
  have h := HB3.out.alloc HB3.out.size (.cells #[.string ⟨#[120, 45, 97]⟩, .string ⟨#[120, 45, 98]⟩] 9)
  exact (HN.out ((w3.alloc (.cells #[.string ⟨#[120, 45, 97]⟩, .string ⟨#[120, 45, 98]⟩] 9)).drewN q) (h.trans ⟨rfl, rfl, rfl, Nat.le_refl _, fun _ _ => rfl⟩)).1
end Go.Proofs.YtlmfhbffknganabDoor

/- The digits of a text by the program, and the text of digits by the program, told as lists of bytes. -/
namespace Go.Proofs.YtlmfhbffknganabDoor
open Go.RowKit

def digs : List UInt8 := [48, 49, 50, 51, 52, 53, 54, 55, 56, 57, 97, 98, 99, 100, 101, 102]
def dig (n : Nat) : UInt8 := digs.getD n 0
def hexL : List UInt8 → List UInt8
  | [] => []
  | c :: r => dig (c.toNat / 16) :: dig (c.toNat % 16) :: hexL r

theorem hexL_append (a b : List UInt8) : hexL (a ++ b) = hexL a ++ hexL b := by
  induction a with
  | nil => rfl
  | cons c r ih => simp only [List.cons_append, hexL, ih]
theorem hexL_length (l : List UInt8) : (hexL l).length = 2 * l.length := by
  induction l with
  | nil => rfl
  | cons c r ih => simp only [hexL, List.length_cons, ih]; omega
theorem digs_at (p : Nat) (h : p < 16) : ({ data := #[48, 49, 50, 51, 52, 53, 54, 55, 56, 57, 97, 98, 99, 100, 101, 102] } : ByteArray)[p]'h = dig p := by
  have : ∀ p : Fin 16, ({ data := #[48, 49, 50, 51, 52, 53, 54, 55, 56, 57, 97, 98, 99, 100, 101, 102] } : ByteArray)[p.val]'p.isLt = dig p := by decide
  exact this ⟨p, h⟩

set_option maxRecDepth 100000 in
set_option maxHeartbeats 1600000 in
theorem hex_any (s : ByteArray) (w : World) (hs : s.size ≤ 1000) :
    Calls Tryd.prog 17 #[.string s] w fun e w' => e = .returned (.string (bs (hexL s.data.toList))) ∧ Below w.heap.size w w' := by
  obtain ⟨i0, hi0, hz0, hz1, hz2⟩ := info_parts info5
  go_enter Tryd.func17, Tryd.ntmps17
  go_wp2_with (at_make; refine wpList_make_own _ rfl _ _ 46 rfl w.heap.size 5 i0 (.int .u8 0) 1 Tryd.underlying46 hi0 hz0 hz1 .i64 .i64 _ (2 * s.size) rfl rfl (by omega) (by rw [hz2]; omega) (by unfold maxLen; omega) (Nat.le_refl _) ?_; intro w1 hown1 hgrow1)
  have hb1 : Below w.heap.size w w1 := (Below.refl _ _).grown hgrow1 (Nat.le_refl _) (by simp)
  have HO1 : Hid (Own w1 w.heap.size (.slice (some ⟨w.heap.size, 0, none⟩) 0 (2 * s.size)) []) := hown1
  clear hown1 hgrow1
  go_loopw [3, 11] (fun v i wr => ∃ (k g cap : Nat), k ≤ s.size ∧ i = .int .i64 k ∧ v = .slice (some ⟨g, 0, none⟩) (2 * k) cap ∧ Hid (Own wr w.heap.size v (hexL (s.data.toList.take k))) ∧ Below w.heap.size w wr) (fun _ i _ => s.size - (intOf i).toNat)
  case atStart => exact ⟨0, _, _, Nat.zero_le _, rfl, rfl, HO1, hb1⟩
  case round =>
    obtain ⟨k, g, cap, hk, rfl, rfl, HO, hb⟩ := hrel
    by_cases hlt : k < s.size
    · obtain ⟨c, hcd⟩ : ∃ c : UInt8, s[k] = c := ⟨_, rfl⟩
      have hcl : (c.toNat : Int) < 256 := by have := c.toNat_lt; omega
      have h0 : (0 : Int) ≤ (k : Int) := Int.natCast_nonneg _
      have hlt' : (k : Int) < (s.size : Int) := by omega
      obtain ⟨p, hp⟩ : ∃ p : Nat, (c.toNat : Int) / 16 = p := ⟨c.toNat / 16, by omega⟩
      obtain ⟨q, hq⟩ : ∃ q : Nat, bits .and .u8 (c.toNat : Int) 15 = q := ⟨c.toNat % 16, by rw [u8_and15 _ (by omega) hcl]; omega⟩
      have hp' : (p : Int) < 16 := by omega
      have hq' : (q : Int) < 16 := by rw [← hq, u8_and15 _ (by omega) hcl]; omega
      have hpn : p < 16 := by omega
      have hqn : q < 16 := by omega
      obtain ⟨d1, hd1⟩ : ∃ d : UInt8, ({ data := #[48, 49, 50, 51, 52, 53, 54, 55, 56, 57, 97, 98, 99, 100, 101, 102] } : ByteArray)[p]'hpn = d := ⟨_, rfl⟩
      obtain ⟨d2, hd2⟩ : ∃ d : UInt8, ({ data := #[48, 49, 50, 51, 52, 53, 54, 55, 56, 57, 97, 98, 99, 100, 101, 102] } : ByteArray)[q]'hqn = d := ⟨_, rfl⟩
      have HD1 : Hid (d1 = dig (c.toNat / 16)) := by
        have e : c.toNat / 16 = p := by omega
        rw [e, ← hd1]; exact digs_at p hpn
      have HD2 : Hid (d2 = dig (c.toNat % 16)) := by
        have e : c.toNat % 16 = q := by rw [u8_and15 _ (by omega) hcl] at hq; omega
        rw [e, ← hd2]; exact digs_at q hqn
      have HS : Hid (s.data.toList.take (k + 1) = s.data.toList.take k ++ [c]) := by rw [← hcd]; exact take_snoc s k hlt
      have hown : wr.ownsRow w.heap.size 5 1 (.slice (some ⟨g, 0, none⟩) (2 * k) cap) (2 * k) ((hexL (s.data.toList.take k)).map fun c => Value.int .u8 (c.toNat : Int)) := by
        have := HO.out
        unfold Own at this
        rwa [hexL_length, List.length_take, Nat.min_eq_left (by simpa using hk)] at this
      have HW : Hid (wr.ownsRow w.heap.size 5 1 (.slice (some ⟨g, 0, none⟩) (2 * k) cap) (2 * k) ((hexL (s.data.toList.take k)).map fun c => Value.int .u8 (c.toNat : Int))) := hown
      clear hown HO
      have hwz : w.heap.size ≤ wr.heap.size := hb.size
      go_wp2
      go_region_held3 (fun _ => True) (go_keep)
        ((refine step_append_lies _ (by rfl) _ _ _ (by rfl) w.heap.size 5 i0 (.int .u8 0) 1 1 Tryd.underlying46 hi0 hz0 hz1 hz2 rfl (by omega) (.slice (some ⟨g, 0, none⟩) (2 * k) cap) (2 * k) _ (by rfl) ((HW.out.alloc _).drew) ⟨wr.heap.size, 0, none⟩ 2 2 [.int .u8 (d1.toNat : Int), .int .u8 (d2.toNat : Int)] (by rfl) (by rfl) (World.news_of_block (cs := #[.int .u8 (d1.toNat : Int), .int .u8 (d2.toNat : Int)]) (t := 5) (fr := (0, 0)) (heap_alloc_new wr _)) (by simp [Value.oneCell']) (by omega) (by unfold maxLen; omega) (by omega) (by simp; omega) (wr.heap.size + 1) (by simp) ?_; intro gg cap1 w1 hown1 hgrow hat hlt1))
      all_goals
        have HN : Hid (Own w1 w.heap.size (.slice (some ⟨gg, 0, none⟩) (2 * (k + 1)) cap1) (hexL (s.data.toList.take (k + 1)))) := by
          show w1.ownsRow _ _ _ _ _ _
          rw [HS.out, hexL_append, List.length_append, hexL_length, List.length_take, Nat.min_eq_left (by simpa using hk), List.map_append]
          have e : hexL [c] = [d1, d2] := by rw [HD1.out, HD2.out]; rfl
          rw [e]
          exact hown1
        have hb1 : Below w.heap.size w w1 := by
          refine (((hb.alloc hwz _).drew)).grown hgrow (by simp; omega) (fun x hx => ?_)
          simp only [Value.ownBlock, Option.some.injEq] at hx
          rcases HW.out.2 with h | ⟨g', _, _, h, hg, _⟩
          · cases h.1
          · injection h with h _ _; injection h with h; injection h with h; omega
        clear hown1 hgrow hat hlt1
        go_wp2
        go_roundw
        case rel => exact ⟨k + 1, gg, cap1, by omega, by go_num, rfl, HN, hb1⟩
        case measure => simp [intOf]; omega
    · have hke : k = s.size := by omega
      have hO : Own wr w.heap.size (.slice (some ⟨g, 0, none⟩) (2 * k) cap) (hexL s.data.toList) := by
        have := HO.out
        rwa [List.take_of_length_le (by simp; omega)] at this
      have hback := hO.back (by rw [hexL_length]; simp; omega)
      clear hO HO HO1 hb1 hke
      go_wp2
      go_ret
      exact ⟨rfl, hb⟩
end Go.Proofs.YtlmfhbffknganabDoor

/- A text without what it ends with, by the library's own functions. -/
namespace Go.Proofs.YtlmfhbffknganabDoor
open Go.RowKit

set_option maxHeartbeats 1000000 in
theorem trim_any (s p : ByteArray) (w : World) (hs : s.size ≤ 1000000) :
    Calls Tryd.prog 31 #[.string s, .string p] w fun e w' => e = .returned (.string (bs (Lib.trimSuffix s.data.toList p.data.toList))) ∧ w' = w := by
  go_enter Tryd.func31, Tryd.ntmps31
  go_wp2
  · have h1 : p.size ≤ s.size := by assumption
    have h2 : ((s.extract (s.size - p.size) s.size).toList == p.toList) = true := by assumption
    go_ret
    refine ⟨?_, rfl⟩
    have := Lib.trimSuffix_hit s p h1 h2
    unfold bs
    rw [this]
    rfl
  · have h2 : ((s.extract (s.size - p.size) s.size).toList == p.toList) = false := by assumption
    go_ret
    refine ⟨?_, rfl⟩
    have := Lib.trimSuffix_miss s p (by rw [h2]; simp)
    unfold bs
    rw [this]
    rfl
  · have h1 : ¬ p.size ≤ s.size := by assumption
    go_ret
    refine ⟨?_, rfl⟩
    have := Lib.trimSuffix_miss s p (by simp [h1])
    unfold bs
    rw [this]
    rfl
end Go.Proofs.YtlmfhbffknganabDoor

/- The bytes of digits by the program: just what Hex writes is read, and read as what it was. -/
namespace Go.Proofs.YtlmfhbffknganabDoor
open Go.RowKit

theorem dig_mem (n : Nat) (h : n < 16) : dig n ∈ digs := by
  have : ∀ p : Fin 16, dig p ∈ digs := by decide
  exact this ⟨n, h⟩
theorem dig_inj (a b : Nat) (ha : a < 16) (hb : b < 16) (h : dig a = dig b) : a = b := by
  have : ∀ p q : Fin 16, dig p = dig q → p = q := by decide
  have := this ⟨a, ha⟩ ⟨b, hb⟩ h
  injection this
theorem hexL_mem (l : List UInt8) : ∀ c ∈ hexL l, c ∈ digs := by
  induction l with
  | nil => intro c hc; cases hc
  | cons a r ih =>
    intro c hc
    simp only [hexL, List.mem_cons] at hc
    have := a.toNat_lt
    rcases hc with rfl | rfl | hc
    · exact dig_mem _ (by omega)
    · exact dig_mem _ (by omega)
    · exact ih c hc
theorem hexL_inj : ∀ (a b : List UInt8), hexL a = hexL b → a = b
  | [], [], _ => rfl
  | [], c :: r, h => by simp [hexL] at h
  | c :: r, [], h => by simp [hexL] at h
  | c :: r, d :: t, h => by
    simp only [hexL, List.cons.injEq] at h
    have h1 := c.toNat_lt
    have h2 := d.toNat_lt
    have e1 := dig_inj _ _ (by omega) (by omega) h.1
    have e2 := dig_inj _ _ (by omega) (by omega) h.2.1
    have e3 : c = d := UInt8.toNat_inj.1 (by omega)
    rw [e3, hexL_inj r t h.2.2]

theorem or16 (a b : Nat) (ha : a < 16) (hb : b < 16) : bits .or .i64 ((a : Int) * 16) (b : Int) = (a : Int) * 16 + b := by
  have : ∀ p q : Fin 16, bits .or .i64 ((p.val : Int) * 16) (q.val : Int) = (p.val : Int) * 16 + q.val := by decide
  exact this ⟨a, ha⟩ ⟨b, hb⟩

def ixD (c : UInt8) : Int := ixOf digs c
theorem ix_digs (c : UInt8) (n : Int) (hn : n = c.toNat) (w : World) :
    Calls Tryd.prog 30 #[.string { data := #[48, 49, 50, 51, 52, 53, 54, 55, 56, 57, 97, 98, 99, 100, 101, 102] }, .int .u8 n] w fun e w' => e = .returned (.int .i64 (ixD c)) ∧ w' = w := ix_of _ c n hn w
theorem ixD_cases (c : UInt8) : (ixD c = -1 ∧ c ∉ digs) ∨ ∃ n : Nat, n < 16 ∧ ixD c = n ∧ dig n = c := ixOf_cases digs c
theorem byte_of (a b : Nat) (ha : a < 16) (hb : b < 16) : ∃ d : UInt8, bits .or .i64 ((a : Int) * 16) (b : Int) = (d.toNat : Int) ∧ dig (d.toNat / 16) = dig a ∧ dig (d.toNat % 16) = dig b := by
  refine ⟨UInt8.ofNat (a * 16 + b), ?_⟩
  have e : (UInt8.ofNat (a * 16 + b)).toNat = a * 16 + b := by simp only [UInt8.toNat_ofNat']; omega
  rw [e, show (a * 16 + b) / 16 = a by omega, show (a * 16 + b) % 16 = b by omega, or16 a b ha hb]
  exact ⟨by omega, rfl, rfl⟩
theorem hexL_not (s : List UInt8) (c : UInt8) (n : Nat) (h : n < s.length) (hc : s[n] = c) (hn : c ∉ digs) : ∀ o, hexL o ≠ s := by
  intro o ho
  subst ho
  exact hn (hexL_mem o c (hc ▸ List.getElem_mem h))

set_option maxRecDepth 100000 in
set_option maxHeartbeats 1600000 in
theorem unhex_any (s : ByteArray) (w : World) (hs : s.size ≤ 1000) :
    Calls Tryd.prog 15 #[.string s] w fun e w' => Below w.heap.size w w' ∧ ((∃ o : List UInt8, e = .returned (.tuple #[.string (bs o), .nilIface]) ∧ hexL o = s.data.toList) ∨ (e = .returned (.tuple #[.string (bs []), .iface 49 (.int .i64 3)]) ∧ ∀ o, hexL o ≠ s.data.toList)) := by
  obtain ⟨i0, hi0, hz0, hz1, hz2⟩ := info_parts info5
  by_cases hodd : s.size % 2 = 0
  · obtain ⟨m, hm⟩ : ∃ m, m * 2 = s.size := ⟨s.size / 2, by omega⟩
    have hm1 : (s.size : Int) = m * 2 := by omega
    have HM : Hid (m * 2 = s.size) := hm
    have hm5 : m ≤ 500 := by omega
    clear hm hodd
    go_enter Tryd.func15, Tryd.ntmps15
    go_wp2_with (at_make; refine wpList_make_own _ rfl _ _ 46 rfl w.heap.size 5 i0 (.int .u8 0) 1 Tryd.underlying46 hi0 hz0 hz1 .i64 .i64 _ m rfl rfl rfl (by rw [hz2]; omega) (by unfold maxLen; omega) (Nat.le_refl _) ?_; intro w1 hown1 hgrow1)
    have hb1 : Below w.heap.size w w1 := (Below.refl _ _).grown hgrow1 (Nat.le_refl _) (by simp)
    have HO1 : Hid (Own w1 w.heap.size (.slice (some ⟨w.heap.size, 0, none⟩) 0 m) []) := hown1
    clear hown1 hgrow1
    go_loopw [4, 20] (fun v i wr => ∃ (k g cap : Nat) (o : List UInt8), k ≤ m ∧ i = .int .i64 k ∧ v = .slice (some ⟨g, 0, none⟩) k cap ∧ Hid (Own wr w.heap.size v o ∧ o.length = k ∧ hexL o = s.data.toList.take (2 * k)) ∧ Below w.heap.size w wr) (fun _ i _ => m - (intOf i).toNat)
    case atStart => exact ⟨0, _, _, [], Nat.zero_le _, rfl, rfl, ⟨HO1, rfl, rfl⟩, hb1⟩
    case round =>
      obtain ⟨k, g, cap, o, hk, rfl, rfl, HO, hb⟩ := hrel
      clear HO1 hb1
      by_cases hlt : k < m
      · obtain ⟨c1, hc1⟩ : ∃ c : UInt8, s[2 * k]'(by have := HM.out; omega) = c := ⟨_, rfl⟩
        obtain ⟨c2, hc2⟩ : ∃ c : UInt8, s[2 * k + 1]'(by have := HM.out; omega) = c := ⟨_, rfl⟩
        have HS : Hid (s.data.toList.take (2 * (k + 1)) = s.data.toList.take (2 * k) ++ [c1, c2]) := by
          have e1 := take_snoc s (2 * k) (by have := HM.out; omega)
          have e2 := take_snoc s (2 * k + 1) (by have := HM.out; omega)
          show s.data.toList.take (2 * k + 1 + 1) = _
          rw [e2, e1, hc1, hc2, List.append_assoc]; rfl
        have hwz : w.heap.size ≤ wr.heap.size := hb.size
        have hz : s.data.toList.length = s.size := by simp
        have H1 : Hid (c1 ∉ digs → ∀ o, hexL o ≠ s.data.toList) := fun h => hexL_not _ c1 (2 * k) (by have := HM.out; omega) hc1 h
        have H2 : Hid (c2 ∉ digs → ∀ o, hexL o ≠ s.data.toList) := fun h => hexL_not _ c2 (2 * k + 1) (by have := HM.out; omega) hc2 h
        clear hz
        rcases ixD_cases c1 with ⟨h1, n1⟩ | ⟨x1, b1, h1, e1⟩
        · have N1 := H1.out n1
          have HN : Hid (∀ o, hexL o ≠ s.data.toList) := N1
          clear N1 n1
          go_wp2_with (go_at_call 30; first | (refine (ix_digs c1 _ rfl _).mono ?_; rintro e w' ⟨rfl, rfl⟩) | (refine (ix_digs c2 _ rfl _).mono ?_; rintro e w' ⟨rfl, rfl⟩))
          go_ret2
          exact ⟨hb, .inr ⟨rfl, HN⟩⟩
        · rcases ixD_cases c2 with ⟨h2, n2⟩ | ⟨x2, b2, h2, e2⟩
          · have N1 := H2.out n2
            have HN : Hid (∀ o, hexL o ≠ s.data.toList) := N1
            clear N1 n2
            have E1 : Hid (dig x1 = c1) := e1
            clear e1
            go_wp2_with (go_at_call 30; first | (refine (ix_digs c1 _ rfl _).mono ?_; rintro e w' ⟨rfl, rfl⟩) | (refine (ix_digs c2 _ rfl _).mono ?_; rintro e w' ⟨rfl, rfl⟩))
            go_ret2
            exact ⟨hb, .inr ⟨rfl, HN⟩⟩
          · obtain ⟨d, hd, E3, E4⟩ := byte_of x1 x2 b1 b2
            have hdl : (d.toNat : Int) < 256 := by have := d.toNat_lt; omega
            have HE : Hid (hexL (o ++ [d]) = s.data.toList.take (2 * (k + 1))) := by
              show _ = _
              rw [hexL_append, HO.out.2.2, HS.out]
              show _ ++ [dig (d.toNat / 16), dig (d.toNat % 16)] = _
              rw [E3, E4, e1, e2]
            have HW : Hid (wr.ownsRow w.heap.size 5 1 (.slice (some ⟨g, 0, none⟩) k cap) k (o.map fun c => Value.int .u8 (c.toNat : Int))) := HO.out.1.rows HO.out.2.1
            have HO2 := HO.out.1
            have HO3 : Hid (Own wr w.heap.size (.slice (some ⟨g, 0, none⟩) k cap) o) := HO2
            have HL : Hid (o.length = k) := HO.out.2.1
            clear e1 e2 E3 E4 HO2 HO H1 H2 HS
            go_wp2_with (first | (go_at_call 30; first | (refine (ix_digs c1 _ rfl _).mono ?_; rintro e w' ⟨rfl, rfl⟩) | (refine (ix_digs c2 _ rfl _).mono ?_; rintro e w' ⟨rfl, rfl⟩)) | (at_builtin; refine wpList_append_lies _ rfl (.tmp 41) (.tmp 47) 46 rfl w.heap.size 5 i0 (.int .u8 0) 1 1 Tryd.underlying46 hi0 hz0 hz1 hz2 rfl (by omega) (.slice (some ⟨g, 0, none⟩) k cap) k _ rfl (HW.out.alloc _) ⟨_, 0, none⟩ 1 1 [.int .u8 (d.toNat : Int)] rfl rfl (World.news_of_block (cs := #[.int .u8 (d.toNat : Int)]) (t := 5) (fr := (0, 0)) (heap_alloc_new _ _)) (by simp [Value.oneCell']) (by omega) (by unfold maxLen; omega) (by omega) (by simp; omega) _ rfl ?_; intro gg cap1 w2 hown1 hgrow hat hlt1; have HN : Hid (Own w2 w.heap.size (.slice (some ⟨gg, 0, none⟩) (k + 1) cap1) (o ++ [d])) := Own.more (ds := [d]) hown1 HL.out rfl; have hb2 : Below w.heap.size w w2 := HO3.out.below hb hwz hgrow; clear hown1 hgrow hat hlt1))
            go_roundw
            case rel => exact ⟨k + 1, gg, cap1, o ++ [d], by omega, by go_num, rfl, ⟨HN, by simp [HL.out], HE⟩, hb2⟩
            case measure => simp [intOf]; omega
      · have hke : k = m := by omega
        have hO := HO.out.1
        have hback := hO.back HO.out.2.1
        have HE : Hid (hexL o = s.data.toList) := by
          have := HO.out.2.2
          rwa [List.take_of_length_le (by simp; have := HM.out; omega)] at this
        clear hO HO hke
        go_wp2
        go_ret2
        exact ⟨hb, .inl ⟨o, rfl, HE⟩⟩
  · go_enter Tryd.func15, Tryd.ntmps15
    go_wp2
    go_ret2
    refine ⟨Below.refl _ _, .inr ⟨rfl, fun o ho => hodd ?_⟩⟩
    have := congrArg List.length ho
    rw [hexL_length] at this
    simp at this
    omega
end Go.Proofs.YtlmfhbffknganabDoor

/- The letters of a text by the program: three bytes, or what is left, are four letters. -/
namespace Go.Proofs.YtlmfhbffknganabDoor
open Go.RowKit

def lets : List UInt8 := [65, 66, 67, 68, 69, 70, 71, 72, 73, 74, 75, 76, 77, 78, 79, 80, 81, 82, 83, 84, 85, 86, 87, 88, 89, 90, 97, 98, 99, 100, 101, 102, 103, 104, 105, 106, 107, 108, 109, 110, 111, 112, 113, 114, 115, 116, 117, 118, 119, 120, 121, 122, 48, 49, 50, 51, 52, 53, 54, 55, 56, 57, 43, 47]
def let64 (n : Nat) : UInt8 := lets.getD n 0
/-- The number that the first k bytes of a text are, noughts behind it. -/
def val : Nat → List UInt8 → Nat
  | 0, _ => 0
  | k + 1, l => val k l * 256 + (l.getD k 0).toNat
def grp (l : List UInt8) : List UInt8 :=
  [let64 (val 3 l / 262144 % 64), let64 (val 3 l / 4096 % 64), if 2 ≤ l.length then let64 (val 3 l / 64 % 64) else 61, if 3 ≤ l.length then let64 (val 3 l % 64) else 61]
def enc : List UInt8 → List UInt8
  | [] => []
  | [a] => grp [a]
  | [a, b] => grp [a, b]
  | a :: b :: c :: r => grp [a, b, c] ++ enc r

theorem val_lt (k : Nat) (l : List UInt8) : val k l < 256 ^ k := by
  induction k with
  | zero => simp [val]
  | succ k ih =>
    have := (l.getD k 0).toNat_lt
    unfold val
    rw [Nat.pow_succ]
    omega
theorem or_join (x y i : Nat) (hx : x % 2 ^ i = 0) (hx1 : x < 2 ^ 62) (hy : y < 2 ^ i) (hi : i ≤ 62) : bits .or .i64 (x : Int) (y : Int) = ((x + y : Nat) : Int) := by
  have hp : (2 : Nat) ^ i ≤ 2 ^ 62 := Nat.pow_le_pow_right (by decide) hi
  have hy2 : y < 2 ^ 62 := by omega
  rw [bits_join .i64 62 (by decide) (fun n h0 h1 => by rw [IntKind.wrap_i64]; omega) i x y (by omega) (by exact_mod_cast hx) (by exact_mod_cast hx1) (by omega) (by exact_mod_cast hy) (by exact_mod_cast hy2)]
  simp
theorem and_mask (x i : Nat) (hx : x < 2 ^ 62) (hi : i ≤ 62) : bits .and .i64 (x : Int) (2 ^ i - 1) = ((x % 2 ^ i : Nat) : Int) := by
  rw [bits_mask .i64 62 (by decide) (fun n h0 h1 => by rw [IntKind.wrap_i64]; omega) i hi x (by omega) (by exact_mod_cast hx)]
  simp
theorem lets_at (p : Nat) (h : p < 64) : ({ data := #[65, 66, 67, 68, 69, 70, 71, 72, 73, 74, 75, 76, 77, 78, 79, 80, 81, 82, 83, 84, 85, 86, 87, 88, 89, 90, 97, 98, 99, 100, 101, 102, 103, 104, 105, 106, 107, 108, 109, 110, 111, 112, 113, 114, 115, 116, 117, 118, 119, 120, 121, 122, 48, 49, 50, 51, 52, 53, 54, 55, 56, 57, 43, 47] } : ByteArray)[p]'h = let64 p := by
  have : ∀ p : Fin 64, ({ data := #[65, 66, 67, 68, 69, 70, 71, 72, 73, 74, 75, 76, 77, 78, 79, 80, 81, 82, 83, 84, 85, 86, 87, 88, 89, 90, 97, 98, 99, 100, 101, 102, 103, 104, 105, 106, 107, 108, 109, 110, 111, 112, 113, 114, 115, 116, 117, 118, 119, 120, 121, 122, 48, 49, 50, 51, 52, 53, 54, 55, 56, 57, 43, 47] } : ByteArray)[p.val]'p.isLt = let64 p := by decide
  exact this ⟨p, h⟩

theorem grp_pad (l : List UInt8) (k : Nat) (hk : k < 4) (h1 : 1 ≤ l.length) (h : l.length < k) : (grp l).take (k + 1) = (grp l).take k ++ [61] := by
  obtain rfl | rfl | rfl | rfl : k = 0 ∨ k = 1 ∨ k = 2 ∨ k = 3 := by omega
  · omega
  · omega
  · simp [grp, show ¬ 2 ≤ l.length by omega]
  · simp [grp, show ¬ 3 ≤ l.length by omega]
theorem grp_let (l : List UInt8) (N k : Nat) (hN : val 3 l = N) (hl : N < 16777216) (hk : k < 4) (h : k ≤ l.length) : ∃ q : Nat, q < 64 ∧ bits .and .i64 (((N / 2 ^ (18 - 6 * k) : Nat) : Int)) 63 = (q : Int) ∧ (grp l).take (k + 1) = (grp l).take k ++ [let64 q] := by
  subst hN
  have hm : ∀ x : Nat, x < 2 ^ 62 → bits .and .i64 (x : Int) 63 = ((x % 64 : Nat) : Int) := fun x hx => and_mask x 6 hx (by omega)
  have hd : val 3 l / 2 ^ (18 - 6 * k) ≤ val 3 l := Nat.div_le_self _ _
  refine ⟨val 3 l / 2 ^ (18 - 6 * k) % 64, Nat.mod_lt _ (by decide), hm _ (by omega), ?_⟩
  obtain rfl | rfl | rfl | rfl : k = 0 ∨ k = 1 ∨ k = 2 ∨ k = 3 := by omega
  · simp [grp]
  · simp [grp]
  · simp [grp, show 2 ≤ l.length by omega]
  · simp [grp, show 3 ≤ l.length by omega]

set_option maxRecDepth 100000 in
set_option maxHeartbeats 800000 in
theorem group_any (part : ByteArray) (l : List UInt8) (B g n cap : Nat) (w : World) (hO : Own w B (.slice (some ⟨g, 0, none⟩) n cap) l) (hn : l.length = n) (hn2 : n ≤ 100000) (h1 : 1 ≤ part.size) (_h3 : part.size ≤ 3) (hB : B ≤ w.heap.size) :
    Calls Tryd.prog 32 #[.slice (some ⟨g, 0, none⟩) n cap, .string part] w fun e w' => ∃ g' cap', e = .returned (.slice (some ⟨g', 0, none⟩) (n + 4) cap') ∧ Own w' B (.slice (some ⟨g', 0, none⟩) (n + 4) cap') (l ++ grp part.data.toList) ∧ Below B w w' := by
  obtain ⟨i0, hi0, hz0, hz1, hz2⟩ := info_parts info5
  have HO0 : Hid (Own w B (.slice (some ⟨g, 0, none⟩) n cap) l) := hO
  clear hO
  have HLn : Hid (l.length = n ∧ n ≤ 100000) := ⟨hn, hn2⟩
  clear hn hn2
  go_enter Tryd.func32, Tryd.ntmps32
  go_wp2
  go_loop [5, 8] (fun b i => ∃ (k : Nat) (x : Int), k ≤ 3 ∧ i = .int .i64 k ∧ b = .int .i64 x ∧ Hid (x = val k part.data.toList)) (fun _ i => 3 - (intOf i).toNat)
  case atStart => exact ⟨0, 0, Nat.zero_le _, rfl, rfl, rfl⟩
  case round =>
    obtain ⟨k, x, hk, rfl, rfl, HX⟩ := hrel
    by_cases hlt : k < 3
    · have hx0 : 0 ≤ x := by have := HX.out; omega
      have hx2 : x < 65536 := by
        have e := HX.out
        have := val_lt k part.data.toList
        have h4 : (256 : Nat) ^ k ≤ 256 ^ 2 := Nat.pow_le_pow_right (by decide) (by omega)
        omega
      by_cases hp : k < part.size
      · obtain ⟨c, hc⟩ : ∃ c : UInt8, part[k] = c := ⟨_, rfl⟩
        have hcl : (c.toNat : Int) < 256 := by have := c.toNat_lt; omega
        obtain ⟨y, hor⟩ : ∃ y : Int, bits .or .i64 (x * 256) (c.toNat : Int) = y := ⟨_, rfl⟩
        have HV : Hid (y = val (k + 1) part.data.toList) := by
          show y = ((val k _ * 256 + _ : Nat) : Int)
          have e : part.data.toList.getD k 0 = c := by
            rw [← hc]; simp [List.getD, hp]; rfl
          have e2 := HX.out
          have := or_join (x.toNat * 256) c.toNat 8 (by omega) (by omega) (by omega) (by omega)
          rw [e, ← hor, show x * 256 = ((x.toNat * 256 : Nat) : Int) by omega, this]
          omega
        go_wp2
        go_round
        case rel => exact ⟨k + 1, y, by omega, by go_num, rfl, HV⟩
        case measure => simp [intOf]; omega
      · have HV : Hid (x * 256 = val (k + 1) part.data.toList) := by
          show _ = ((val k _ * 256 + _ : Nat) : Int)
          have e : part.data.toList.getD k 0 = 0 := by
            simp [List.getD, hp]
          have e2 := HX.out
          have e3 : (0 : UInt8).toNat = 0 := rfl
          rw [e, e3]
          omega
        go_wp2
        go_round
        case rel => exact ⟨k + 1, _, by omega, by go_num, rfl, HV⟩
        case measure => simp [intOf]; omega
    · have hk3 : k = 3 := by omega
      subst hk3
      obtain ⟨N, hN⟩ : ∃ N : Nat, val 3 part.data.toList = N := ⟨_, rfl⟩
      have HN : Hid (val 3 part.data.toList = N) := hN
      have hxN : x = (N : Int) := by rw [← hN]; exact HX.out
      subst hxN
      have HNl : Hid (N < 16777216) := by have := val_lt 3 part.data.toList; rw [hN] at this; exact this
      clear hN HX hk hlt
      go_wp2
      go_loopw [0, 24] (fun v i wr => ∃ (k g1 cap1 : Nat), k ≤ 4 ∧ i = .int .i64 k ∧ v = .slice (some ⟨g1, 0, none⟩) (n + k) cap1 ∧ Hid (Own wr B v (l ++ (grp part.data.toList).take k)) ∧ Below B w wr) (fun _ i _ => 4 - (intOf i).toNat)
      case atStart => exact ⟨0, g, cap, Nat.zero_le _, rfl, rfl, by rw [List.take_zero, List.append_nil]; exact HO0, Below.refl _ _⟩
      case round =>
        obtain ⟨k, g1, cap1, hk, rfl, rfl, HO, hb⟩ := hrel
        clear HO0
        have hBz : B ≤ wr.heap.size := Nat.le_trans hB hb.size
        have hlen : (l ++ (grp part.data.toList).take k).length = n + k := by
          rw [List.length_append, HLn.out.1, List.length_take]
          have : (grp part.data.toList).length = 4 := rfl
          omega
        have HW : Hid (wr.ownsRow B 5 1 (.slice (some ⟨g1, 0, none⟩) (n + k) cap1) (n + k) ((l ++ (grp part.data.toList).take k).map fun c => Value.int .u8 (c.toNat : Int))) := HO.out.rows hlen
        have HLen : Hid ((l ++ (grp part.data.toList).take k).length = n + k) := hlen
        have HM : Hid (n + k + 1 ≤ maxLen ∧ (n + k + 1) * 1 ≤ 140737488355328) := by
          have := HLn.out.2
          show _ ∧ _
          unfold maxLen
          omega
        clear hlen
        by_cases hlt : k < 4
        · by_cases hpad : (part.size : Int) < (k : Int)
          · have HG : Hid ((grp part.data.toList).take (k + 1) = (grp part.data.toList).take k ++ [61]) := grp_pad _ k hlt (by simpa using h1) (by simp; omega)
            go_wp2_with (at_builtin; refine wpList_append_lies _ rfl (.tmp 31) (.tmp 32) 46 rfl B 5 i0 (.int .u8 0) 1 1 Tryd.underlying46 hi0 hz0 hz1 hz2 rfl (by omega) (.slice (some ⟨g1, 0, none⟩) (n + k) cap1) (n + k) _ rfl (HW.out.alloc _) ⟨_, 0, none⟩ 1 1 [.int .u8 61] rfl rfl (World.news_of_block (cs := #[.int .u8 61]) (t := 5) (fr := (0, 0)) (heap_alloc_new _ _)) (by simp [Value.oneCell']) (by omega) HM.out.1 HM.out.2 (by simp; omega) _ rfl ?_; intro gg cap2 w2 hown1 hgrow hat hlt1; have HN2 : Hid (Own w2 B (.slice (some ⟨gg, 0, none⟩) (n + k + 1) cap2) (l ++ (grp part.data.toList).take (k + 1))) := (by show Own _ _ _ _; rw [HG.out, ← List.append_assoc]; exact Own.more (ds := [61]) hown1 HLen.out rfl); have hb2 : Below B w w2 := HO.out.below hb hBz hgrow; clear hown1 hgrow hat hlt1)
            go_roundw
            case rel => exact ⟨k + 1, gg, cap2, by omega, by go_num, rfl, HN2, hb2⟩
            case measure => simp [intOf]; omega
          · obtain ⟨q, hq64, hq, HG⟩ := grp_let part.data.toList N k HN.out HNl.out hlt (by simp; omega)
            obtain ⟨d, hd⟩ : ∃ d : UInt8, ({ data := #[65, 66, 67, 68, 69, 70, 71, 72, 73, 74, 75, 76, 77, 78, 79, 80, 81, 82, 83, 84, 85, 86, 87, 88, 89, 90, 97, 98, 99, 100, 101, 102, 103, 104, 105, 106, 107, 108, 109, 110, 111, 112, 113, 114, 115, 116, 117, 118, 119, 120, 121, 122, 48, 49, 50, 51, 52, 53, 54, 55, 56, 57, 43, 47] } : ByteArray)[q]'hq64 = d := ⟨_, rfl⟩
            have HG2 : Hid ((grp part.data.toList).take (k + 1) = (grp part.data.toList).take k ++ [d]) := by rw [← hd, lets_at q hq64]; exact HG
            clear HG
            have hq64' : (q : Int) < 64 := by omega
            obtain rfl | rfl | rfl | rfl : k = 0 ∨ k = 1 ∨ k = 2 ∨ k = 3 := by omega
            · have hqk : bits .and .i64 ((N : Int) / 262144) 63 = (q : Int) := by rw [← hq]; simp
              clear hq
              have HWk : Hid (wr.ownsRow B 5 1 (.slice (some ⟨g1, 0, none⟩) n cap1) n ((l ++ (grp part.data.toList).take 0).map fun c => Value.int .u8 (c.toNat : Int))) := HW
              clear HW
              have HOk : Hid (Own wr B (.slice (some ⟨g1, 0, none⟩) n cap1) (l ++ (grp part.data.toList).take 0)) := HO
              clear HO
              go_wp2_with (at_builtin; refine wpList_append_lies _ rfl (.tmp 34) (.tmp 42) 46 rfl B 5 i0 (.int .u8 0) 1 1 Tryd.underlying46 hi0 hz0 hz1 hz2 rfl (by omega) (.slice (some ⟨g1, 0, none⟩) n cap1) n _ rfl (HWk.out.alloc _) ⟨_, 0, none⟩ 1 1 [.int .u8 (d.toNat : Int)] rfl rfl (World.news_of_block (cs := #[.int .u8 (d.toNat : Int)]) (t := 5) (fr := (0, 0)) (heap_alloc_new _ _)) (by simp [Value.oneCell']) (by omega) HM.out.1 HM.out.2 (by simp; omega) _ rfl ?_; intro gg cap2 w2 hown1 hgrow hat hlt1; have HN2 : Hid (Own w2 B (.slice (some ⟨gg, 0, none⟩) (n + 1) cap2) (l ++ (grp part.data.toList).take (0 + 1))) := (by show Own _ _ _ _; rw [HG2.out, ← List.append_assoc]; exact Own.more (ds := [d]) hown1 HLen.out rfl); have hb2 : Below B w w2 := HOk.out.below hb hBz hgrow; clear hown1 hgrow hat hlt1)
              go_roundw
              case rel => exact ⟨0 + 1, gg, cap2, by omega, by go_num, rfl, HN2, hb2⟩
              case measure => simp [intOf]
            · have hqk : bits .and .i64 ((N : Int) / 4096) 63 = (q : Int) := by rw [← hq]; simp
              clear hq
              have HWk : Hid (wr.ownsRow B 5 1 (.slice (some ⟨g1, 0, none⟩) (n + 1) cap1) (n + 1) ((l ++ (grp part.data.toList).take 1).map fun c => Value.int .u8 (c.toNat : Int))) := HW
              clear HW
              have HOk : Hid (Own wr B (.slice (some ⟨g1, 0, none⟩) (n + 1) cap1) (l ++ (grp part.data.toList).take 1)) := HO
              clear HO
              go_wp2_with (at_builtin; refine wpList_append_lies _ rfl (.tmp 34) (.tmp 42) 46 rfl B 5 i0 (.int .u8 0) 1 1 Tryd.underlying46 hi0 hz0 hz1 hz2 rfl (by omega) (.slice (some ⟨g1, 0, none⟩) (n + 1) cap1) (n + 1) _ rfl (HWk.out.alloc _) ⟨_, 0, none⟩ 1 1 [.int .u8 (d.toNat : Int)] rfl rfl (World.news_of_block (cs := #[.int .u8 (d.toNat : Int)]) (t := 5) (fr := (0, 0)) (heap_alloc_new _ _)) (by simp [Value.oneCell']) (by omega) HM.out.1 HM.out.2 (by simp; omega) _ rfl ?_; intro gg cap2 w2 hown1 hgrow hat hlt1; have HN2 : Hid (Own w2 B (.slice (some ⟨gg, 0, none⟩) ((n + 1) + 1) cap2) (l ++ (grp part.data.toList).take (1 + 1))) := (by show Own _ _ _ _; rw [HG2.out, ← List.append_assoc]; exact Own.more (ds := [d]) hown1 HLen.out rfl); have hb2 : Below B w w2 := HOk.out.below hb hBz hgrow; clear hown1 hgrow hat hlt1)
              go_roundw
              case rel => exact ⟨1 + 1, gg, cap2, by omega, by go_num, rfl, HN2, hb2⟩
              case measure => simp [intOf]
            · have hqk : bits .and .i64 ((N : Int) / 64) 63 = (q : Int) := by rw [← hq]; simp
              clear hq
              have HWk : Hid (wr.ownsRow B 5 1 (.slice (some ⟨g1, 0, none⟩) (n + 2) cap1) (n + 2) ((l ++ (grp part.data.toList).take 2).map fun c => Value.int .u8 (c.toNat : Int))) := HW
              clear HW
              have HOk : Hid (Own wr B (.slice (some ⟨g1, 0, none⟩) (n + 2) cap1) (l ++ (grp part.data.toList).take 2)) := HO
              clear HO
              go_wp2_with (at_builtin; refine wpList_append_lies _ rfl (.tmp 34) (.tmp 42) 46 rfl B 5 i0 (.int .u8 0) 1 1 Tryd.underlying46 hi0 hz0 hz1 hz2 rfl (by omega) (.slice (some ⟨g1, 0, none⟩) (n + 2) cap1) (n + 2) _ rfl (HWk.out.alloc _) ⟨_, 0, none⟩ 1 1 [.int .u8 (d.toNat : Int)] rfl rfl (World.news_of_block (cs := #[.int .u8 (d.toNat : Int)]) (t := 5) (fr := (0, 0)) (heap_alloc_new _ _)) (by simp [Value.oneCell']) (by omega) HM.out.1 HM.out.2 (by simp; omega) _ rfl ?_; intro gg cap2 w2 hown1 hgrow hat hlt1; have HN2 : Hid (Own w2 B (.slice (some ⟨gg, 0, none⟩) ((n + 2) + 1) cap2) (l ++ (grp part.data.toList).take (2 + 1))) := (by show Own _ _ _ _; rw [HG2.out, ← List.append_assoc]; exact Own.more (ds := [d]) hown1 HLen.out rfl); have hb2 : Below B w w2 := HOk.out.below hb hBz hgrow; clear hown1 hgrow hat hlt1)
              go_roundw
              case rel => exact ⟨2 + 1, gg, cap2, by omega, by go_num, rfl, HN2, hb2⟩
              case measure => simp [intOf]
            · have hqk : bits .and .i64 (N : Int) 63 = (q : Int) := by rw [← hq]; simp
              clear hq
              have HWk : Hid (wr.ownsRow B 5 1 (.slice (some ⟨g1, 0, none⟩) (n + 3) cap1) (n + 3) ((l ++ (grp part.data.toList).take 3).map fun c => Value.int .u8 (c.toNat : Int))) := HW
              clear HW
              have HOk : Hid (Own wr B (.slice (some ⟨g1, 0, none⟩) (n + 3) cap1) (l ++ (grp part.data.toList).take 3)) := HO
              clear HO
              go_wp2_with (at_builtin; refine wpList_append_lies _ rfl (.tmp 34) (.tmp 42) 46 rfl B 5 i0 (.int .u8 0) 1 1 Tryd.underlying46 hi0 hz0 hz1 hz2 rfl (by omega) (.slice (some ⟨g1, 0, none⟩) (n + 3) cap1) (n + 3) _ rfl (HWk.out.alloc _) ⟨_, 0, none⟩ 1 1 [.int .u8 (d.toNat : Int)] rfl rfl (World.news_of_block (cs := #[.int .u8 (d.toNat : Int)]) (t := 5) (fr := (0, 0)) (heap_alloc_new _ _)) (by simp [Value.oneCell']) (by omega) HM.out.1 HM.out.2 (by simp; omega) _ rfl ?_; intro gg cap2 w2 hown1 hgrow hat hlt1; have HN2 : Hid (Own w2 B (.slice (some ⟨gg, 0, none⟩) ((n + 3) + 1) cap2) (l ++ (grp part.data.toList).take (3 + 1))) := (by show Own _ _ _ _; rw [HG2.out, ← List.append_assoc]; exact Own.more (ds := [d]) hown1 HLen.out rfl); have hb2 : Below B w w2 := HOk.out.below hb hBz hgrow; clear hown1 hgrow hat hlt1)
              go_roundw
              case rel => exact ⟨3 + 1, gg, cap2, by omega, by go_num, rfl, HN2, hb2⟩
              case measure => simp [intOf]
        · have hk4 : k = 4 := by omega
          subst hk4
          have HE : Hid (Own wr B (.slice (some ⟨g1, 0, none⟩) (n + 4) cap1) (l ++ grp part.data.toList)) := by
            have := HO.out
            rwa [List.take_of_length_le (show (grp part.data.toList).length ≤ 4 from Nat.le_refl 4)] at this
          clear HW HM HLen HO
          go_wp2
          go_ret
          exact ⟨g1, cap1, rfl, HE, hb⟩

theorem grp_length (l : List UInt8) : (grp l).length = 4 := rfl
theorem enc_part (l : List UInt8) (h1 : 1 ≤ l.length) (h3 : l.length ≤ 3) : enc l = grp l := by
  match l, h1, h3 with
  | [a], _, _ => rfl
  | [a, b], _, _ => rfl
  | [a, b, c], _, _ => simp [enc]
theorem enc_append (x y : List UInt8) (h : x.length % 3 = 0) : enc (x ++ y) = enc x ++ enc y := by
  match x, h with
  | [], _ => rfl
  | a :: b :: c :: r, h =>
    have := enc_append r y (by simp at h; omega)
    simp only [List.cons_append, enc, this, List.append_assoc]
theorem enc_length (l : List UInt8) : (enc l).length = (l.length + 2) / 3 * 4 := by
  match l with
  | [] => rfl
  | [a] => simp [enc, grp_length]
  | [a, b] => simp [enc, grp_length]
  | a :: b :: c :: r =>
    have := enc_length r
    simp only [enc, List.length_append, grp_length, this, List.length_cons]
    omega

set_option maxRecDepth 100000 in
set_option maxHeartbeats 800000 in
theorem base_any (s : ByteArray) (w : World) (hs : s.size ≤ 1000) :
    Calls Tryd.prog 18 #[.string s] w fun e w' => e = .returned (.string (bs (enc s.data.toList))) ∧ Below w.heap.size w w' := by
  obtain ⟨i0, hi0, hz0, hz1, hz2⟩ := info_parts info5
  obtain ⟨m, hm⟩ : ∃ m : Nat, ((s.size : Int) + 2) / 3 = m := ⟨(s.size + 2) / 3, by omega⟩
  have hm3 : m ≤ 334 := by omega
  have HM : Hid (m = (s.size + 2) / 3) := by show _ = _; omega
  go_enter Tryd.func18, Tryd.ntmps18
  go_wp2_with (at_make; refine wpList_make_own _ rfl _ _ 46 rfl w.heap.size 5 i0 (.int .u8 0) 1 Tryd.underlying46 hi0 hz0 hz1 .i64 .i64 _ (4 * m) rfl rfl (by omega) (by rw [hz2]; omega) (by unfold maxLen; omega) (Nat.le_refl _) ?_; intro w1 hown1 hgrow1)
  have hb1 : Below w.heap.size w w1 := (Below.refl _ _).grown hgrow1 (Nat.le_refl _) (by simp)
  have HO1 : Hid (Own w1 w.heap.size (.slice (some ⟨w.heap.size, 0, none⟩) 0 (4 * m)) []) := hown1
  clear hown1 hgrow1
  go_loopw [4, 14] (fun v i wr => ∃ (k g cap : Nat), k ≤ m ∧ i = .int .i64 k ∧ v = .slice (some ⟨g, 0, none⟩) (4 * k) cap ∧ Hid (Own wr w.heap.size v (enc (s.data.toList.take (3 * k)))) ∧ Below w.heap.size w wr) (fun _ i _ => m - (intOf i).toNat)
  case atStart => exact ⟨0, _, _, Nat.zero_le _, rfl, rfl, HO1, hb1⟩
  case round =>
    obtain ⟨k, g, cap, hk, rfl, rfl, HO, hb⟩ := hrel
    clear HO1 hb1
    by_cases hlt : k < m
    · have hwz : w.heap.size ≤ wr.heap.size := hb.size
      obtain ⟨part, hpart⟩ : ∃ p : ByteArray, s.extract (3 * k) (min (3 * (k : Int) + 3) (s.size : Int)).toNat = p := ⟨_, rfl⟩
      have hpl : part.data.toList = (s.data.toList.drop (3 * k)).take 3 := by
        have e := HM.out
        rw [← hpart, Lib.extract_data]
        by_cases hf : 3 * k + 3 ≤ s.size
        · rw [show (min (3 * (k : Int) + 3) (s.size : Int)).toNat - 3 * k = 3 by omega]
        · rw [List.take_of_length_le (by simp; omega), List.take_of_length_le (by simp; omega)]
      have hp1 : 1 ≤ part.size ∧ part.size ≤ 3 := by
        have e := HM.out
        rw [Lib.size_eq, hpl]
        simp
        omega
      have HT : Hid (enc (s.data.toList.take (3 * (k + 1))) = enc (s.data.toList.take (3 * k)) ++ grp part.data.toList) := by
        have e := HM.out
        show _ = _
        rw [← enc_part _ (by have := Lib.size_eq part; omega) (by have := Lib.size_eq part; omega), ← enc_append _ _ (by simp; omega), hpl, show 3 * (k + 1) = 3 * k + 3 by omega, List.take_add]
      have HL : Hid ((enc (s.data.toList.take (3 * k))).length = 4 * k) := by
        have e := HM.out
        show _ = _
        rw [enc_length, List.length_take]
        simp
        omega
      clear hpl
      have HP : Hid (1 ≤ part.size ∧ part.size ≤ 3) := hp1
      clear hp1
      go_wp2_with (go_at_call 32; refine (group_any part _ w.heap.size g (4 * k) cap _ HO.out HL.out (by omega) HP.out.1 HP.out.2 hwz).mono ?_; rintro e w' ⟨g', cap', rfl, HN, hb2⟩; have HN2 : Hid (Own w' w.heap.size (.slice (some ⟨g', 0, none⟩) (4 * k + 4) cap') (enc (s.data.toList.take (3 * (k + 1))))) := (by show Own _ _ _ _; rw [HT.out]; exact HN); clear HN)
      go_roundw
      case rel => exact ⟨k + 1, g', cap', by omega, by go_num, rfl, HN2, hb.trans hb2⟩
      case measure => simp [intOf]; omega
    · have hO : Own wr w.heap.size (.slice (some ⟨g, 0, none⟩) (4 * k) cap) (enc s.data.toList) := by
        have := HO.out
        have e := HM.out
        rwa [List.take_of_length_le (by simp; omega)] at this
      have hback := hO.back (by rw [enc_length]; have := HM.out; simp; omega)
      clear hO HO
      go_wp2
      go_ret
      exact ⟨rfl, hb⟩
end Go.Proofs.YtlmfhbffknganabDoor
