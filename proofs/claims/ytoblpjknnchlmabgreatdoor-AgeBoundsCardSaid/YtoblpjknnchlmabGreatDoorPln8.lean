/- Whether a header may be sent without asking, by the program. -/
import Derived.Test.YtoblpjknnchlmabGreatDoorFrm8
import Derived.Test.YtoblpjknnchlmabGreatDoorSam
import Derived.Deep.QuietTactic
import Derived.BigQuiet
namespace Go.Proofs.YtoblpjknnchlmabGreatDoor
open Go.RowKit Go.Shelf

def nmA : List UInt8 := [97, 99, 99, 101, 112, 116]
def nmL : List UInt8 := [97, 99, 99, 101, 112, 116, 45, 108, 97, 110, 103, 117, 97, 103, 101]
def nmC : List UInt8 := [99, 111, 110, 116, 101, 110, 116, 45, 108, 97, 110, 103, 117, 97, 103, 101]
def nmT : List UInt8 := [99, 111, 110, 116, 101, 110, 116, 45, 116, 121, 112, 101]
/-- A header, of this name in small letters, that may be sent without asking. -/
def plainN (x v : List UInt8) : Bool := if x == nmA then v.all safeB else if x == nmL then v.all tongB else if x == nmC then v.all tongB else if x == nmT then v.all safeB && formL v else false
def plainL (n v : List UInt8) : Bool := decide (v.length ≤ 128) && plainN (n.map low) v
theorem two_at {w : World} {g : Nat} {v0 v1 : Value} {T : TypeId} (h : w.heap[g]? = some (.cells #[v0, v1] T (0, 0))) : w.cell? ⟨g, 0, none⟩ = some v0 ∧ w.cell? ⟨g, 1, none⟩ = some v1 ∧ ∀ j, w.frozen? ⟨g, j, none⟩ = false :=
  ⟨by simp [World.cell?, h], by simp [World.cell?, h], fun j => by simp [World.frozen?, h]⟩
set_option maxHeartbeats 4000000 in
theorem plain_any (n v : ByteArray) (hn : n.size ≤ 4000) (hv : v.size ≤ 140737488355328) (w : World) :
    Calls Tryz.prog 78 #[.agg #[.string n, .string v]] w fun e w' => e = .returned (.bool (plainL n.data.toList v.data.toList)) ∧ Below w.heap.size w w' := by
  have hlv : v.data.toList.length = v.size := Array.length_toList
  have hb0 : Below w.heap.size w (w.alloc (.cells #[.string n, .string v] 37)) := (Below.refl _ _).alloc (Nat.le_refl _) _
  by_cases hl : v.size ≤ 128
  · have hlz : ¬ (128 : Int) < (v.size : Int) := by omega
    obtain ⟨x, HX⟩ : ∃ x : ByteArray, Hid (bs (n.data.toList.map low) = x) := ⟨_, rfl⟩
    have HP : Hid (plainL n.data.toList v.data.toList = plainN x.toList v.data.toList) := by
      show _ = _
      unfold plainL
      rw [hlv, decide_eq_true hl, Bool.true_and, ByteArray.toList_eq, ← HX.out, bs_data]
    have HN : Hid (∀ w', Below (w.alloc (.cells #[.string n, .string v] 37)).heap.size (w.alloc (.cells #[.string n, .string v] 37)) w' → Below w.heap.size w w' ∧ w'.heap[w.heap.size]? = some (.cells #[.string n, .string v] 37 (0, 0))) := fun w' hb => ⟨hb0.trans (hb.mono (by simp)), (hb.block _ (by simp)).trans (heap_alloc_new w _)⟩
    clear hb0 hlv
    go_enter Tryz.func78, Tryz.ntmps78
    go_wp2_with fail
    refine (lower_any n _ (by omega)).mono ?_
    rintro e w1 ⟨rfl, hb1⟩
    have HB1 := HN.out _ hb1
    have HB : Hid (Below w.heap.size w w1) := HB1.1
    obtain ⟨x0, x1, _⟩ := two_at HB1.2
    rw [HX.out]
    clear hb1 HB1
    unfold plainN nmA nmL nmC nmT at HP
    cases a1 : (x.toList == [97, 99, 99, 101, 112, 116])
    rotate_left
    · have HQ : Hid (plainL n.data.toList v.data.toList = v.data.toList.all safeB) := by
        show _ = _
        rw [HP.out, a1]; rfl
      obtain ⟨b, HBB⟩ : ∃ b : Bool, Hid (v.data.toList.all safeB = b) := ⟨_, rfl⟩
      go_wp2_with fail
      refine (all_any _ _ kind_safe v (by omega) _).mono ?_
      rintro e w' ⟨rfl, hw⟩
      obtain rfl := hw.symm
      rw [HBB.out]
      go_wp2
      go_ret
      exact ⟨ret_bool (by rw [HQ.out, HBB.out]), HB.out⟩
    cases a2 : (x.toList == [97, 99, 99, 101, 112, 116, 45, 108, 97, 110, 103, 117, 97, 103, 101])
    rotate_left
    · have HQ : Hid (plainL n.data.toList v.data.toList = v.data.toList.all tongB) := by
        show _ = _
        rw [HP.out, a1, a2]; rfl
      obtain ⟨b, HBB⟩ : ∃ b : Bool, Hid (v.data.toList.all tongB = b) := ⟨_, rfl⟩
      go_wp2_with fail
      refine (all_any _ _ kind_tong v (by omega) _).mono ?_
      rintro e w' ⟨rfl, hw⟩
      obtain rfl := hw.symm
      rw [HBB.out]
      go_wp2
      go_ret
      exact ⟨ret_bool (by rw [HQ.out, HBB.out]), HB.out⟩
    cases a3 : (x.toList == [99, 111, 110, 116, 101, 110, 116, 45, 108, 97, 110, 103, 117, 97, 103, 101])
    rotate_left
    · have HQ : Hid (plainL n.data.toList v.data.toList = v.data.toList.all tongB) := by
        show _ = _
        rw [HP.out, a1, a2, a3]; rfl
      obtain ⟨b, HBB⟩ : ∃ b : Bool, Hid (v.data.toList.all tongB = b) := ⟨_, rfl⟩
      go_wp2_with fail
      refine (all_any _ _ kind_tong v (by omega) _).mono ?_
      rintro e w' ⟨rfl, hw⟩
      obtain rfl := hw.symm
      rw [HBB.out]
      go_wp2
      go_ret
      exact ⟨ret_bool (by rw [HQ.out, HBB.out]), HB.out⟩
    cases a4 : (x.toList == [99, 111, 110, 116, 101, 110, 116, 45, 116, 121, 112, 101])
    · have HQ : Hid (plainL n.data.toList v.data.toList = false) := by
        show _ = _
        rw [HP.out, a1, a2, a3, a4]; rfl
      go_wp2
      go_ret
      exact ⟨ret_bool (by rw [HQ.out]), HB.out⟩
    · have HQ : Hid (plainL n.data.toList v.data.toList = (v.data.toList.all safeB && formL v.data.toList)) := by
        show _ = _
        rw [HP.out, a1, a2, a3, a4]; rfl
      obtain ⟨b, HBB⟩ : ∃ b : Bool, Hid (v.data.toList.all safeB = b) := ⟨_, rfl⟩
      obtain ⟨d, HD⟩ : ∃ b : Bool, Hid (formL v.data.toList = b) := ⟨_, rfl⟩
      go_wp2_with fail
      refine (all_any _ _ kind_safe v (by omega) _).mono ?_
      rintro e w' ⟨rfl, hw⟩
      obtain rfl := hw.symm
      rw [HBB.out]
      cases b
      · go_wp2
        go_ret
        exact ⟨ret_bool (by rw [HQ.out, HBB.out]; rfl), HB.out⟩
      · go_wp2_with fail
        refine (form_any v (by omega) _).mono ?_
        rintro e w2 ⟨rfl, hb2⟩
        rw [HD.out]
        go_wp2
        go_ret
        exact ⟨ret_bool (by rw [HQ.out, HBB.out, HD.out]; rfl), HB.out.trans (hb2.mono HB.out.size)⟩
  · have hlz : (128 : Int) < (v.size : Int) := by omega
    have HP : Hid (plainL n.data.toList v.data.toList = false) := by
      show _ = _
      unfold plainL
      rw [hlv, decide_eq_false hl, Bool.false_and]
    go_enter Tryz.func78, Tryz.ntmps78
    go_wp2
    go_ret
    exact ⟨ret_bool (by rw [HP.out]), hb0⟩
end Go.Proofs.YtoblpjknnchlmabGreatDoor
