/- The five facts that the laws ask for first: some well-known digits, letters and small letters. -/
import Derived.Test.YtbhnaekkjpcafabDoorUnhex
import Derived.Test.YtbhnaekkjpcafabDoorUnb
import Derived.Test.YtbhnaekkjpcafabDoorLw
namespace Go.Proofs.YtbhnaekkjpcafabDoor
open Go.RowKit

theorem unhex_of (s : ByteArray) (l : List UInt8) (o : ByteArray) (hl : hexL l = s.data.toList) (ho : bs l = o) (w : World) (hs : s.size ≤ 1000) :
    Calls Tryd.prog 16 #[.string s] w fun e w' => e = .returned (.tuple #[.string o, .nilIface]) ∧ Below w.heap.size w w' := by
  refine (unhex_any s w hs).mono ?_
  rintro e w' ⟨hb, ⟨o', rfl, ho'⟩ | ⟨_, hn⟩⟩
  · have := hexL_inj o' l (by rw [ho', hl])
    subst this
    rw [ho]
    exact ⟨rfl, hb⟩
  · exact absurd hl (hn l)
theorem unbase_of (s : ByteArray) (l : List UInt8) (o : ByteArray) (hl : enc l = s.data.toList) (ho : bs l = o) (w : World) (hs : s.size ≤ 1000) :
    Calls Tryd.prog 17 #[.string s] w fun e w' => e = .returned (.tuple #[.string o, .nilIface]) ∧ Below w.heap.size w w' := by
  refine (unbase_any s w hs).mono ?_
  rintro e w' ⟨hb, ⟨o', rfl, ho'⟩ | ⟨_, hn⟩⟩
  · have := enc_inj o' l (by rw [ho', hl])
    subst this
    rw [ho]
    exact ⟨rfl, hb⟩
  · exact absurd hl (hn l)

theorem coded_hex (w : World) : Calls Tryd.prog 18 #[.string { data := #[74] }] w fun e w' => e = .returned (.string { data := #[52, 97] }) ∧ Below w.heap.size w w' := hex_any { data := #[74] } w (by decide)
theorem coded_base (w : World) : Calls Tryd.prog 19 #[.string { data := #[72, 105, 33] }] w fun e w' => e = .returned (.string { data := #[83, 71, 107, 104] }) ∧ Below w.heap.size w w' := by
  refine (base_any { data := #[72, 105, 33] } w (by decide)).mono ?_
  rintro e w' ⟨rfl, hb⟩
  exact ⟨ret_str (by decide), hb⟩
theorem coded_low (w : World) : Calls Tryd.prog 12 #[.string { data := #[97, 66, 99] }] w fun e w' => e = .returned (.string { data := #[97, 98, 99] }) ∧ Below w.heap.size w w' := by
  refine (lower_any { data := #[97, 66, 99] } w (by decide)).mono ?_
  rintro e w' ⟨rfl, hb⟩
  exact ⟨ret_str (by decide), hb⟩

set_option maxHeartbeats 800000 in
theorem coded_any (w : World) : Calls Tryd.prog 6 #[] w fun e w' => e = .returned (.bool true) ∧ Below w.heap.size w w' := by
  go_enter Tryd.func6, Tryd.ntmps6
  go_wp2_with (first
    | (go_at_call 16; refine (unhex_of { data := #[52, 97, 52, 98] } [74, 75] { data := #[74, 75] } (by decide) rfl _ (by decide)).mono ?_; rintro e w1 ⟨rfl, hb1⟩)
    | (go_at_call 17; refine (unbase_of { data := #[83, 71, 107, 61] } [72, 105] { data := #[72, 105] } (by decide) rfl _ (by decide)).mono ?_; rintro e w2 ⟨rfl, hb2⟩)
    | (go_at_call 18; refine (coded_hex _).mono ?_; rintro e w3 ⟨rfl, hb3⟩)
    | (go_at_call 19; refine (coded_base _).mono ?_; rintro e w4 ⟨rfl, hb4⟩)
    | (go_at_call 12; refine (coded_low _).mono ?_; rintro e w5 ⟨rfl, hb5⟩))
  go_ret
  refine ⟨rfl, ?_⟩
  have s1 := hb1.size
  have s2 := hb2.size
  have s3 := hb3.size
  have s4 := hb4.size
  exact (((hb1.trans (hb2.mono (by omega))).trans (hb3.mono (by omega))).trans (hb4.mono (by omega))).trans (hb5.mono (by omega))
end Go.Proofs.YtbhnaekkjpcafabDoor
