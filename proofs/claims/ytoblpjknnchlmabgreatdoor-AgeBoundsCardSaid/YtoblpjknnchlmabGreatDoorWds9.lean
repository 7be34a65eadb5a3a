/- words: the list that a field tells, by the program. -/
import Derived.Test.YtoblpjknnchlmabGreatDoorWds9D
import Derived.Test.YtoblpjknnchlmabGreatDoorGet9
import Derived.Test.YtoblpjknnchlmabGreatDoorBxa
import Derived.Deep.Onto
import Derived.Deep.QuietTactic
import Derived.BigQuiet
namespace Go.Proofs.YtoblpjknnchlmabGreatDoor
open Go.RowKit

/-- What words answers. -/
def WdsAns (o : Option (List ByteArray)) (B : Nat) (e : Ending) (w' : World) : Prop :=
  (∃ (xs : List ByteArray) (v : Value), o = some xs ∧ e = .returned (.tuple #[v, .bool true]) ∧ OwnS w' B v xs) ∨ (o = none ∧ e = .returned (.tuple #[.slice none 0 0, .bool false]))
set_option maxRecDepth 100000 in
set_option maxHeartbeats 4000000 in
theorem words9_any (ps : List Par) (hf : Few9 ps) (n : ByteArray) (hn : n.size ≤ 4000) (a0 : Option Addr) (len cap b off : Nat) (w : World) (hx : Pars w a0 len b off ps) :
    Calls Tryz.prog 41 #[.slice a0 len cap, .string n] w fun e w' => WdsAns (wordsO (fieldT n.data.toList ps)) w.heap.size e w' ∧ Below w.heap.size w w' := by
  obtain ⟨x, HXE⟩ : ∃ x, Hid (bs (fieldT n.data.toList ps) = x) := ⟨_, rfl⟩
  have hxz : x.size ≤ 20000 := by rw [← HXE.out, bs_size]; exact Nat.le_trans (hf.len _) (by decide)
  have HXL : Hid (fieldT n.data.toList ps = x.data.toList) := by show _ = _; rw [← HXE.out, bs_data]
  have hg := get9_any ps hf n hn a0 len cap b off w hx
  rw [HXE.out] at hg
  rw [HXL.out]
  clear hf hx
  go_enter Tryz.func41, Tryz.ntmps41
  go_wp2_with fail
  refine hg.mono ?_
  rintro e w1 ⟨rfl, hb1⟩
  have HB1 : Hid (Below w.heap.size w w1) := hb1
  clear hb1 hg
  go_wp2_with fail
  refine (list_any x hxz _).mono ?_
  rintro e w2 ⟨⟨xs, v, hl, h40, rfl, hown⟩ | ⟨xs, hl, h40, rfl⟩ | ⟨p, g, hl, rfl, _, _, _⟩, hb2⟩
  · have HW : Hid (wordsO x.data.toList = some xs) := wordsO_ok hl h40
    have HO : Hid (OwnS w2 w.heap.size v xs) := World.ownsRow.mono hown (by have := HB1.out.size; omega)
    have HB2 : Hid (Below w.heap.size w w2) := HB1.out.trans (hb2.mono HB1.out.size)
    clear hl hown hb2
    go_wp2_with fail
    go_quiet (fail)
    go_wp2
    go_ret2
    exact ⟨.inl ⟨xs, v, HW.out, rfl, HO.out.below (drewN_below (Below.refl _ _) _)⟩, drewN_below HB2.out _⟩
  · have HW : Hid (wordsO x.data.toList = none) := wordsO_many hl h40
    have HB2 : Hid (Below w.heap.size w w2) := HB1.out.trans (hb2.mono HB1.out.size)
    clear hl hb2
    go_wp2_with fail
    go_quiet (fail)
    go_wp2
    go_ret2
    exact ⟨.inr ⟨HW.out, rfl⟩, drewN_below HB2.out _⟩
  · have HW : Hid (wordsO x.data.toList = none) := wordsO_bad hl
    have HB2 : Hid (Below w.heap.size w w2) := HB1.out.trans (hb2.mono HB1.out.size)
    clear hl hb2
    go_wp2_with fail
    go_quiet (fail)
    go_wp2
    go_ret2
    exact ⟨.inr ⟨HW.out, rfl⟩, drewN_below HB2.out _⟩
end Go.Proofs.YtoblpjknnchlmabGreatDoor
