/- The fact that headers are asked for. -/
import Derived.Test.YtbhnaekkjpcafabDoorMth8
import Derived.Test.YtbhnaekkjpcafabDoorSmp8
import Derived.Test.YtbhnaekkjpcafabDoorAskd8
import Derived.Test.YtbhnaekkjpcafabDoorEqs
namespace Go.Proofs.YtbhnaekkjpcafabDoor
open Go.RowKit Go.Shelf

theorem sortL_is {a b : List (List UInt8)} (hp : a.Perm b) (hs : b.Pairwise fun x y => x ≤ y) : sortL a = b :=
  List.Perm.eq_of_pairwise (le := fun a b => a ≤ b) (fun _ _ _ _ h1 h2 => List.le_antisymm h1 h2) (sortL_sorted a) hs ((sortL_perm a).trans hp)
def four8 : List Par := [(⟨#[88, 45, 66]⟩, ⟨#[]⟩), (⟨#[65, 99, 99, 101, 112, 116]⟩, ⟨#[97, 47, 98]⟩), (⟨#[120, 45, 97]⟩, ⟨#[]⟩), (⟨#[88, 45, 98]⟩, ⟨#[]⟩)]
theorem four8_names : tx (askedNames four8) = [[120, 45, 98], [120, 45, 97], [120, 45, 98]] := by decide +kernel
theorem four8_asked : askedL four8 = [⟨#[120, 45, 97]⟩, ⟨#[120, 45, 98]⟩] := by
  unfold askedL
  rw [four8_names, sortL_is (b := [[120, 45, 97], [120, 45, 98], [120, 45, 98]]) (by decide) (by decide)]
  decide +kernel
theorem four8_small : Small8 four8 := by
  unfold Small8
  decide +kernel
theorem pars_four (w : World) (W : World) (hW : W.heap[w.heap.size]? = some (.cells #[.string ⟨#[88, 45, 66]⟩, .string ⟨#[]⟩, .string ⟨#[65, 99, 99, 101, 112, 116]⟩, .string ⟨#[97, 47, 98]⟩, .string ⟨#[120, 45, 97]⟩, .string ⟨#[]⟩, .string ⟨#[88, 45, 98]⟩, .string ⟨#[]⟩] 24 (0, 0))) : Pars W (some ⟨w.heap.size, 0, none⟩) 4 w.heap.size 0 four8 := by
  have hlt := (Array.getElem?_eq_some_iff.1 hW).1
  refine ⟨rfl, fun _ => ⟨rfl, hlt⟩, fun j p hp => ?_, fun j p hp => ?_⟩
  · match j, hp with
    | 0, hp => cases hp; simp [World.cell?, hW]
    | 1, hp => cases hp; simp [World.cell?, hW]
    | 2, hp => cases hp; simp [World.cell?, hW]
    | 3, hp => cases hp; simp [World.cell?, hW]
    | j + 4, hp => simp [four8] at hp
  · match j, hp with
    | 0, hp => cases hp; simp [World.cell?, hW]
    | 1, hp => cases hp; simp [World.cell?, hW]
    | 2, hp => cases hp; simp [World.cell?, hW]
    | 3, hp => cases hp; simp [World.cell?, hW]
    | j + 4, hp => simp [four8] at hp
theorem strs8_two (W : World) (x y : ByteArray) : Strs (W.alloc (.cells #[.string x, .string y] 9)) (some ⟨W.heap.size, 0, none⟩) 2 W.heap.size 0 [x, y] := by
  refine ⟨rfl, fun _ => ⟨rfl, by simp⟩, fun j p hp => ?_⟩
  match j, hp with
  | 0, hp => cases hp; exact World.cell?_alloc_mark _ _ _ _ _
  | 1, hp => cases hp; exact World.cell?_alloc_mark _ _ _ _ _
  | j + 2, hp => simp at hp
theorem put_is : methodB ⟨#[112, 117, 116]⟩ = ⟨#[80, 85, 84]⟩ := by decide +kernel
theorem patch_is : methodB ⟨#[112, 97, 116, 99, 104]⟩ = ⟨#[112, 97, 116, 99, 104]⟩ := by decide +kernel
theorem simple_get : simpleL (⟨#[71, 69, 84]⟩ : ByteArray).toList = true := by decide +kernel
theorem simple_put : simpleL (⟨#[80, 85, 84]⟩ : ByteArray).toList = false := by decide +kernel
set_option maxRecDepth 100000 in
set_option maxHeartbeats 4000000 in
theorem fetched_any (w : World) (hm : Methods w) : Calls Tryd.prog 5 #[] w fun e w' => e = .returned (.bool true) ∧ Below w.heap.size w w' := by
  have HN : Hid (∀ w', Below (w.alloc (.cells #[.string ⟨#[88, 45, 66]⟩, .string ⟨#[]⟩, .string ⟨#[65, 99, 99, 101, 112, 116]⟩, .string ⟨#[97, 47, 98]⟩, .string ⟨#[120, 45, 97]⟩, .string ⟨#[]⟩, .string ⟨#[88, 45, 98]⟩, .string ⟨#[]⟩] 24)).heap.size (w.alloc (.cells #[.string ⟨#[88, 45, 66]⟩, .string ⟨#[]⟩, .string ⟨#[65, 99, 99, 101, 112, 116]⟩, .string ⟨#[97, 47, 98]⟩, .string ⟨#[120, 45, 97]⟩, .string ⟨#[]⟩, .string ⟨#[88, 45, 98]⟩, .string ⟨#[]⟩] 24)) w' → Below w.heap.size w w' ∧ Methods w' ∧ w'.heap[w.heap.size]? = some (.cells #[.string ⟨#[88, 45, 66]⟩, .string ⟨#[]⟩, .string ⟨#[65, 99, 99, 101, 112, 116]⟩, .string ⟨#[97, 47, 98]⟩, .string ⟨#[120, 45, 97]⟩, .string ⟨#[]⟩, .string ⟨#[88, 45, 98]⟩, .string ⟨#[]⟩] 24 (0, 0))) := fun w' hb => by
    have hb0 : Below w.heap.size w (w.alloc (.cells #[.string ⟨#[88, 45, 66]⟩, .string ⟨#[]⟩, .string ⟨#[65, 99, 99, 101, 112, 116]⟩, .string ⟨#[97, 47, 98]⟩, .string ⟨#[120, 45, 97]⟩, .string ⟨#[]⟩, .string ⟨#[88, 45, 98]⟩, .string ⟨#[]⟩] 24)) := (Below.refl _ _).alloc (Nat.le_refl _) _
    have hb1 := hb0.trans (hb.mono (by simp))
    exact ⟨hb1, hm.below hb1 (Nat.le_refl _), (hb.block _ (by simp)).trans (heap_alloc_new w _)⟩
  clear hm
  go_enter Tryd.func5, Tryd.ntmps5
  go_wp2_with fail
  generalize hW0 : w.alloc (.cells #[.string ⟨#[88, 45, 66]⟩, .string ⟨#[]⟩, .string ⟨#[65, 99, 99, 101, 112, 116]⟩, .string ⟨#[97, 47, 98]⟩, .string ⟨#[120, 45, 97]⟩, .string ⟨#[]⟩, .string ⟨#[88, 45, 98]⟩, .string ⟨#[]⟩] 24) = W0 at HN ⊢
  clear hW0
  refine (simple_any _ _).mono ?_
  rintro e w' ⟨rfl, hw⟩
  obtain rfl := hw.symm
  rw [simple_get]
  go_wp2_with fail
  refine (simple_any _ _).mono ?_
  rintro e w' ⟨rfl, hw⟩
  obtain rfl := hw.symm
  rw [simple_put]
  go_wp2_with fail
  refine (method_any _ (by decide) _ (HN.out _ (Below.refl _ _)).2.1).mono ?_
  rintro e w1 ⟨rfl, hb1⟩
  rw [put_is]
  go_wp2_with fail
  refine (method_any _ (by decide) _ (HN.out _ hb1).2.1).mono ?_
  rintro e w2 ⟨rfl, hb2⟩
  rw [patch_is]
  have HB2 : Hid (Below W0.heap.size W0 w2) := hb1.trans (hb2.mono hb1.size)
  clear hb1 hb2
  go_wp2_with fail
  refine (asked8_any four8 four8_small _ 4 _ _ _ (by decide) _ (pars_four w w2 (HN.out _ HB2.out).2.2)).mono ?_
  rintro e w3 ⟨⟨v, rfl, hown⟩, hb3⟩
  rw [four8_asked] at hown
  have HB3 : Hid (Below W0.heap.size W0 w3) := HB2.out.trans (hb3.mono HB2.out.size)
  clear hb3
  obtain ⟨a, c, g, rfl, hst⟩ := hown.strs
  simp only [List.length_cons, List.length_nil, Nat.zero_add, Nat.reduceAdd] at hst ⊢
  have HS : Hid (Strs (w3.alloc (.cells #[.string ⟨#[120, 45, 97]⟩, .string ⟨#[120, 45, 98]⟩] 9)) a 2 g 0 [⟨#[120, 45, 97]⟩, ⟨#[120, 45, 98]⟩]) := hst.below ((Below.refl _ _).alloc (Nat.le_refl _) _)
  clear hown hst
  go_wp2_with fail
  refine (equal_same a _ 2 c g 0 _ _ 0 [⟨#[120, 45, 97]⟩, ⟨#[120, 45, 98]⟩] _ (by decide) HS.out (strs8_two w3 _ _)).mono ?_
  rintro e w4 ⟨rfl, q, rfl⟩
  go_wp2
  go_ret
  refine ⟨rfl, ?_⟩
  have h := HB3.out.alloc HB3.out.size (.cells #[.string ⟨#[120, 45, 97]⟩, .string ⟨#[120, 45, 98]⟩] 9)
  exact (HN.out ((w3.alloc (.cells #[.string ⟨#[120, 45, 97]⟩, .string ⟨#[120, 45, 98]⟩] 9)).drewN q) (h.trans ⟨rfl, rfl, rfl, Nat.le_refl _, fun _ _ => rfl⟩)).1
end Go.Proofs.YtbhnaekkjpcafabDoor
