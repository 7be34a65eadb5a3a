/- Whether a type is one that a form of a page may send, and whether a header may be sent without asking, by the program. -/
import Derived.Test.YtoblpjknnchlmabGreatDoorFt8
import Derived.Test.YtoblpjknnchlmabGreatDoorTrB
import Derived.Test.YtoblpjknnchlmabGreatDoorCut1
import Derived.Test.YtoblpjknnchlmabGreatDoorLw
namespace Go.Proofs.YtoblpjknnchlmabGreatDoor
open Go.RowKit Go.Shelf

def formA : List UInt8 := [97, 112, 112, 108, 105, 99, 97, 116, 105, 111, 110, 47, 120, 45, 119, 119, 119, 45, 102, 111, 114, 109, 45, 117, 114, 108, 101, 110, 99, 111, 100, 101, 100]
def formB : List UInt8 := [109, 117, 108, 116, 105, 112, 97, 114, 116, 47, 102, 111, 114, 109, 45, 100, 97, 116, 97]
def formC : List UInt8 := [116, 101, 120, 116, 47, 112, 108, 97, 105, 110]
def kindL (l : List UInt8) : List UInt8 := (trimW (cutL 59 l).1).map low
/-- A type that a form of a page may send. -/
def formL (l : List UInt8) : Bool := kindL l == formA || (kindL l == formB || kindL l == formC)
set_option maxHeartbeats 1000000 in
theorem form_any (s : ByteArray) (hs : s.size ≤ 3000) (w : World) :
    Calls Tryz.prog 107 #[.string s] w fun e w' => e = .returned (.bool (formL s.data.toList)) ∧ Below w.heap.size w w' := by
  go_enter Tryz.func107, Tryz.ntmps107
  go_wp2_with fail
  refine (cut_any s 59 (by omega) _).mono ?_
  rintro e w1 ⟨a, b, f, rfl, ha, hb, HC, hb1⟩
  have HB1 : Hid (Below w.heap.size w w1) := hb1
  clear hb1
  go_wp2_with fail
  refine (trimBoth_any a (by omega) _).mono ?_
  rintro e w2 ⟨t, rfl, HT, ht, hb2⟩
  have HB2 : Hid (Below w.heap.size w w2) := HB1.out.trans (hb2.mono HB1.out.size)
  clear hb2
  obtain ⟨x, HX⟩ : ∃ x : ByteArray, Hid (bs (t.data.toList.map low) = x) := ⟨_, rfl⟩
  have HK : Hid (kindL s.data.toList = x.toList) := by
    show _ = _
    unfold kindL
    rw [HC.out, ← HT.out, ByteArray.toList_eq, ← HX.out, bs_data]
  go_wp2_with fail
  refine (lower_any t _ (by omega)).mono ?_
  rintro e w3 ⟨rfl, hb3⟩
  have HB3 : Hid (Below w.heap.size w w3) := HB2.out.trans (hb3.mono HB2.out.size)
  clear hb3
  rw [HX.out]
  have HF : Hid (formL s.data.toList = (x.toList == formA || (x.toList == formB || x.toList == formC))) := by
    show _ = _
    unfold formL
    rw [HK.out]
  unfold formA formB formC at HF
  go_wp2
  all_goals
    go_ret
    exact ⟨ret_bool (by rw [HF.out]; simp_all), HB3.out⟩
end Go.Proofs.YtoblpjknnchlmabGreatDoor
