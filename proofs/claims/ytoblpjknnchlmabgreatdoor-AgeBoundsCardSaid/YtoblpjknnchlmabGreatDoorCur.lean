/- Where a cursor is, and what of the world it leaves as it was. -/
import Derived.Test.YtoblpjknnchlmabGreatDoorTkB
import Derived.Test.YtoblpjknnchlmabGreatDoorApp
import Derived.Test.YtoblpjknnchlmabGreatDoorClo
import Derived.Deep.Cut
import Derived.Deep.QuietTactic
import Derived.BigQuiet
import Derived.Deep.Draws
namespace Go.Proofs.YtoblpjknnchlmabGreatDoor
open Go.RowKit

/-- A cursor at block b: its text, and where it is. -/
structure Cur (w : World) (b : Nat) (s : ByteArray) (k : Nat) : Prop where
  text : w.cell? ⟨b, 0, none⟩ = some (.string s)
  place : w.cell? ⟨b, 1, none⟩ = some (.int .i64 (k : Int))
  free : w.frozen? ⟨b, 1, none⟩ = false
  le : k ≤ s.size
theorem Cur.drewN {w : World} {b : Nat} {s : ByteArray} {k : Nat} (h : Cur w b s k) (n : Nat) : Cur (w.drewN n) b s k := ⟨h.text, h.place, h.free, h.le⟩
theorem Cur.drew {w : World} {b : Nat} {s : ByteArray} {k : Nat} (h : Cur w b s k) : Cur w.drew b s k := ⟨h.text, h.place, h.free, h.le⟩
theorem Cur.lt {w : World} {b : Nat} {s : ByteArray} {k : Nat} (h : Cur w b s k) : b < w.heap.size := by
  rcases Nat.lt_or_ge b w.heap.size with h1 | h1
  · exact h1
  · have := h.text
    simp [World.cell?, Array.getElem?_eq_none h1] at this
theorem Cur.set {w : World} {b : Nat} {s : ByteArray} {k : Nat} (h : Cur w b s k) (m : Nat) (hm : m ≤ s.size) (v : Int) (hv : v = (m : Int)) : Cur (w.setCell ⟨b, 1, none⟩ (.int .i64 v)) b s m := by
  subst hv
  refine ⟨?_, World.cell?_setCell_same _ _ _ h.place, ?_, hm⟩
  · rw [World.cell?_setCell_other _ _ _ _ (by intro e; injection e with _ e2; omega)]
    exact h.text
  · have := h.free
    simpa using this
theorem Cur.grown {w w' : World} {b : Nat} {s : ByteArray} {k : Nat} {row : Option Nat} (h : Cur w b s k) (hg : w.grownBy w' row) (hr : some b ≠ row) : Cur w' b s k :=
  ⟨hg.cell h.text hr, hg.cell h.place hr, (World.frozen?_of_block (a := ⟨b, 1, none⟩) (hg.block b h.lt hr)).trans h.free, h.le⟩
theorem Cur.below {w w' : World} {b : Nat} {s : ByteArray} {k : Nat} (h : Cur w b s k) (hb : Below w.heap.size w w') : Cur w' b s k :=
  h.grown (row := none) ⟨hb.os, hb.tape, hb.output, hb.size, fun i hi _ => hb.block i hi⟩ (by simp)
theorem grown_drewN (w : World) (n : Nat) (row : Option Nat) : w.grownBy (w.drewN n) row := ⟨rfl, rfl, rfl, Nat.le_refl _, fun _ _ _ => rfl⟩
theorem grown_set (w : World) (b i : Nat) (v : Value) : w.grownBy (w.setCell ⟨b, i, none⟩ v) (some b) :=
  ⟨rfl, rfl, rfl, by simp [World.setCell], fun k _ hk => Below.heap_setCell _ _ _ _ (by intro e; apply hk; rw [e])⟩
theorem grown_trans {a b c : World} {row : Option Nat} (h : a.grownBy b row) (k : b.grownBy c row) : a.grownBy c row :=
  ⟨k.os.trans h.os, k.tape.trans h.tape, k.output.trans h.output, Nat.le_trans h.size k.size, fun i hi hr => (k.block i (Nat.lt_of_lt_of_le hi h.size) hr).trans (h.block i hi hr)⟩
theorem grown_below {w w' : World} (hb : Below w.heap.size w w') (row : Option Nat) : w.grownBy w' row := ⟨hb.os, hb.tape, hb.output, hb.size, fun i hi _ => hb.block i hi⟩

theorem blankB_32 (c : UInt8) (h : (c.toNat : Int) = 32) : blankB c = true := by
  rw [(u8_is (n := 32) (by omega)).1 h]
  rfl
theorem blankB_9 (c : UInt8) (h : (c.toNat : Int) = 9) : blankB c = true := by
  rw [(u8_is (n := 9) (by omega)).1 h]
  rfl
theorem blankB_no (c : UInt8) (h : ¬ (c.toNat : Int) = 32) (h2 : ¬ (c.toNat : Int) = 9) : blankB c = false := by
  unfold blankB
  rw [beq_eq_false_iff_ne.2 (by rintro rfl; exact h rfl), beq_eq_false_iff_ne.2 (by rintro rfl; exact h2 rfl)]
  rfl
theorem blank_any (c : UInt8) (w : World) : Calls Tryz.prog 129 #[.int .u8 (c.toNat : Int)] w fun e w' => e = .returned (.bool (blankB c)) ∧ w' = w := by
  by_cases h : (c.toNat : Int) = 32
  · rw [blankB_32 c h]
    go_enter Tryz.func129, Tryz.ntmps129
    go_wp2
    go_ret
    exact ⟨rfl, rfl⟩
  · by_cases h2 : (c.toNat : Int) = 9
    · rw [blankB_9 c h2]
      go_enter Tryz.func129, Tryz.ntmps129
      go_wp2
      go_ret
      exact ⟨rfl, rfl⟩
    · rw [blankB_no c h h2]
      have e1 := beq_eq_false_iff_ne.2 h
      have e2 := beq_eq_false_iff_ne.2 h2
      go_enter Tryz.func129, Tryz.ntmps129
      go_wp2
      go_ret
      exact ⟨rfl, rfl⟩
theorem kind_blank : Kind 129 blankB := ⟨blank_any, enters_at Tryz.func129 (by kernel_rfl) rfl⟩

theorem on_any (s : ByteArray) (w : World) :
    Calls Tryz.prog 97 #[.string s] w fun e w' => e = .returned (.pointer (some ⟨w.heap.size, 0, none⟩)) ∧ Cur w' w.heap.size s 0 ∧ Below w.heap.size w w' ∧ w.heap.size < w'.heap.size := by
  go_enter Tryz.func97, Tryz.ntmps97
  go_wp2
  go_ret
  exact ⟨rfl, ⟨by simp, by simp, by simp, Nat.zero_le _⟩, (Below.refl _ _).alloc (Nat.le_refl _) _, by simp⟩
theorem at_any (b : Nat) (s : ByteArray) (k : Nat) (w : World) (hc : Cur w b s k) :
    Calls Tryz.prog 102 #[.pointer (some ⟨b, 0, none⟩)] w fun e w' => e = .returned (.int .i64 (k : Int)) ∧ w' = w := by
  obtain ⟨h1, h2, h3, h4⟩ := hc
  go_enter Tryz.func102, Tryz.ntmps102
  go_wp2
  go_ret
  exact ⟨rfl, rfl⟩
theorem end_any (b : Nat) (s : ByteArray) (k : Nat) (w : World) (hc : Cur w b s k) :
    Calls Tryz.prog 100 #[.pointer (some ⟨b, 0, none⟩)] w fun e w' => e = .returned (.bool ((k : Int) == (s.size : Int))) ∧ ∃ n, w' = w.drewN n := by
  obtain ⟨h1, h2, h3, h4⟩ := hc
  go_enter Tryz.func100, Tryz.ntmps100
  go_wp2
  go_quiet (fail)
  go_wp2
  go_ret
  exact ⟨rfl, _, rfl⟩
end Go.Proofs.YtoblpjknnchlmabGreatDoor
