/- The law PlainCase, walked. -/
import Derived.Test.YtbhnaekkjpcafabDoorFtd8
import Derived.Test.YtbhnaekkjpcafabDoorCoded
import Derived.Test.YtbhnaekkjpcafabDoorFew8
import Derived.Test.YtbhnaekkjpcafabDoorFPl8b
import Derived.Test.YtbhnaekkjpcafabDoorShCon
import Derived.Test.YtbhnaekkjpcafabDoorRgH
import Derived.Deep.RegionHeld3
import Derived.RegionTactic
namespace Go.Proofs.YtbhnaekkjpcafabDoor
open Go.RowKit Go.Shelf

theorem low_low8 : ∀ c : UInt8, low (low c) = low c := by
  intro c
  have : ∀ n : Fin 256, low (low (UInt8.ofNat n.1)) = low (UInt8.ofNat n.1) := by decide +kernel
  have h := this ⟨c.toNat, c.toNat_lt⟩
  simpa using h
theorem low_twice (l : List UInt8) : (l.map low).map low = l.map low := by
  rw [List.map_map]
  apply List.map_congr_left
  intro c _
  exact low_low8 c
theorem plain_low (n v : List UInt8) : plainL (n.map low) v = plainL n v := by
  unfold plainL
  rw [low_twice]
def plain4 : List ByteArray := [⟨#[97, 99, 99, 101, 112, 116]⟩, ⟨#[97, 99, 99, 101, 112, 116, 45, 108, 97, 110, 103, 117, 97, 103, 101]⟩, ⟨#[99, 111, 110, 116, 101, 110, 116, 45, 108, 97, 110, 103, 117, 97, 103, 101]⟩, ⟨#[99, 111, 110, 116, 101, 110, 116, 45, 116, 121, 112, 101]⟩]
theorem plain_in (n v : List UInt8) (h : plainL n v = true) : bs (n.map low) ∈ plain4 := by
  unfold plainL at h
  rw [Bool.and_eq_true] at h
  have h2 := h.2
  unfold plainN at h2
  generalize n.map low = x at h2
  split at h2
  · rename_i e; rw [eq_of_beq e]; exact List.Mem.head _
  split at h2
  · rename_i e; rw [eq_of_beq e]; exact List.Mem.tail _ (List.Mem.head _)
  split at h2
  · rename_i e; rw [eq_of_beq e]; exact List.Mem.tail _ (List.Mem.tail _ (List.Mem.head _))
  split at h2
  · rename_i e; rw [eq_of_beq e]; exact List.Mem.tail _ (List.Mem.tail _ (List.Mem.tail _ (List.Mem.head _)))
  · cases h2
theorem con4 (W : World) (x : ByteArray) (h : x ∈ plain4) : Calls Tryd.prog 10 #[.slice (some ⟨W.heap.size, 0, none⟩) 4 4, .string x] (W.alloc (.cells #[.string ⟨#[97, 99, 99, 101, 112, 116]⟩, .string ⟨#[97, 99, 99, 101, 112, 116, 45, 108, 97, 110, 103, 117, 97, 103, 101]⟩, .string ⟨#[99, 111, 110, 116, 101, 110, 116, 45, 108, 97, 110, 103, 117, 97, 103, 101]⟩, .string ⟨#[99, 111, 110, 116, 101, 110, 116, 45, 116, 121, 112, 101]⟩] 9)) fun e w' => e = .returned (.bool true) ∧ Below (W.alloc (.cells #[.string ⟨#[97, 99, 99, 101, 112, 116]⟩, .string ⟨#[97, 99, 99, 101, 112, 116, 45, 108, 97, 110, 103, 117, 97, 103, 101]⟩, .string ⟨#[99, 111, 110, 116, 101, 110, 116, 45, 108, 97, 110, 103, 117, 97, 103, 101]⟩, .string ⟨#[99, 111, 110, 116, 101, 110, 116, 45, 116, 121, 112, 101]⟩] 9)).heap.size (W.alloc (.cells #[.string ⟨#[97, 99, 99, 101, 112, 116]⟩, .string ⟨#[97, 99, 99, 101, 112, 116, 45, 108, 97, 110, 103, 117, 97, 103, 101]⟩, .string ⟨#[99, 111, 110, 116, 101, 110, 116, 45, 108, 97, 110, 103, 117, 97, 103, 101]⟩, .string ⟨#[99, 111, 110, 116, 101, 110, 116, 45, 116, 121, 112, 101]⟩] 9)) w' := by
  refine (Any.slices_Contains_string lays110 W.heap.size 0 4 4 plain4 x _ (by decide) (by decide) (fun j hj => ?_)).mono ?_
  · match j, hj with
    | 0, _ => exact World.cell?_alloc_mark _ _ _ _ _
    | 1, _ => exact World.cell?_alloc_mark _ _ _ _ _
    | 2, _ => exact World.cell?_alloc_mark _ _ _ _ _
    | 3, _ => exact World.cell?_alloc_mark _ _ _ _ _
    | j + 4, hj => exact absurd hj (by show ¬ j + 4 < 4; omega)
  · rintro e w' ⟨rfl, rfl⟩
    refine ⟨?_, Below.refl _ _⟩
    have h2 : Lib.containsS (plain4.take 4) x = true := (Lib.containsS_iff _ _).2 h
    rw [h2]
theorem pars_one (w : World) (x y : ByteArray) : Pars (w.alloc (.cells #[.string x, .string y] 24)) (some ⟨w.heap.size, 0, none⟩) 1 w.heap.size 0 [(x, y)] := by
  refine ⟨rfl, fun _ => ⟨rfl, by simp⟩, fun j p hp => ?_, fun j p hp => ?_⟩
  · match j, hp with
    | 0, hp => cases hp; exact World.cell?_alloc_mark _ _ _ _ _
    | j + 1, hp => simp at hp
  · match j, hp with
    | 0, hp => cases hp; exact World.cell?_alloc_mark _ _ _ _ _
    | j + 1, hp => simp at hp
abbrev S8 (w : World) (g : Nat) (x y n : ByteArray) (W : World) : Prop :=
  W.cell? ⟨w.heap.size, 0, none⟩ = some (.string x) ∧ W.cell? ⟨w.heap.size, 1, none⟩ = some (.string y) ∧ W.cell? ⟨g, 0, none⟩ = some (.string n) ∧ W.cell? ⟨g, 1, none⟩ = some (.string y) ∧ Hid (KeepW w W ∧ w.heap.size < g ∧ g < W.heap.size)
theorem S8.step {w W W' : World} {g : Nat} {x y n : ByteArray} (h : S8 w g x y n W) (hb : Below W.heap.size W W') : S8 w g x y n W' := by
  obtain ⟨h0, h1, h2, h3, h4⟩ := h
  have hz := hb.size
  have h5 := h4.out.1.siz
  have h6 := h4.out.2.2
  exact ⟨(hb.cell (p := ⟨w.heap.size, 0, none⟩) h5).trans h0, (hb.cell (p := ⟨w.heap.size, 1, none⟩) h5).trans h1, (hb.cell (p := ⟨g, 0, none⟩) h6).trans h2, (hb.cell (p := ⟨g, 1, none⟩) h6).trans h3, ⟨⟨h4.out.1.bel.trans (hb.mono h4.out.1.bel.size), by omega⟩, h4.out.2.1, by omega⟩⟩
theorem S8.new {w W : World} {g : Nat} {x y n : ByteArray} {o : Obj} (h : S8 w g x y n W) : S8 w g x y n (W.alloc o) := h.step ((Below.refl _ _).alloc (Nat.le_refl _) _)
theorem s8_set {w W : World} {g : Nat} {x y n : ByteArray} (h : BoxP w x y W) (h0 : W.cell? ⟨g, 0, none⟩ = some (.string x)) (h1 : W.cell? ⟨g, 1, none⟩ = some (.string y)) (hg : w.heap.size < g) (hlt : g < W.heap.size) : S8 w g x y n (W.setCell ⟨g, 0, none⟩ (.string n)) := by
  have hn : ∀ j, (⟨g, 0, none⟩ : Addr) ≠ ⟨w.heap.size, j, none⟩ := fun j e => by injection e with e1 _; omega
  have hn1 : (⟨g, 0, none⟩ : Addr) ≠ ⟨g, 1, none⟩ := fun e => by injection e with _ e2; omega
  refine ⟨(World.cell?_setCell_other _ _ _ _ (hn 0)).trans h.1, (World.cell?_setCell_other _ _ _ _ (hn 1)).trans h.2.1, World.cell?_setCell_same _ _ _ h0, (World.cell?_setCell_other _ _ _ _ hn1).trans h1, ⟨h.2.2.bel.setCell (by show w.heap.size ≤ g; omega) _, by simp; exact h.2.2.siz⟩, hg, by simpa using hlt⟩
structure PlIs (a b : ByteArray) (q : Bool) : Prop where
  ha : a.size ≤ 4000
  hb : b.size ≤ 140737488355328
  hq : plainL a.data.toList b.data.toList = q
theorem plain_is (a b : ByteArray) (q : Bool) (h : PlIs a b q) (w : World) : Calls Tryd.prog 11 #[.agg #[.string a, .string b]] w fun e w' => e = .returned (.bool q) ∧ Below w.heap.size w w' := by
  have := plain_any a b h.ha h.hb w
  rw [h.hq] at this
  exact this
set_option maxRecDepth 100000 in
set_option maxHeartbeats 8000000 in
theorem plainCase_walk (x y : ByteArray) (hz : x.size ≤ 140737488355328 ∧ y.size ≤ 140737488355328) (w : World) (hm : Methods w) :
    Calls Tryd.prog 4 #[.agg #[.string x, .string y]] w fun e w' => e = .returned (.bool true) ∧ Below w.heap.size w w' := by
  have HS0 : Hid (BoxP w x y (w.alloc (.cells #[.string x, .string y] 24))) := boxP_new w x y
  have HM : Hid (Methods (w.alloc (.cells #[.string x, .string y] 24))) := hm.below ((Below.refl _ _).alloc (Nat.le_refl _) _) (Nat.le_refl _)
  have HZ : Hid (x.size ≤ 140737488355328 ∧ y.size ≤ 140737488355328) := hz
  clear hm hz
  go_enter Tryd.func4, Tryd.ntmps4
  go_wp2_with fail
  generalize hW0 : w.alloc (.cells #[.string x, .string y] 24) = W0 at HS0 HM ⊢
  clear hW0
  refine (fetched_any _ HM.out).mono ?_
  rintro e w1 ⟨rfl, hb1⟩
  go_wp2_with fail
  refine (coded_any _).mono ?_
  rintro e w2 ⟨rfl, hb2⟩
  have HS2 : Hid (BoxP w x y w2) := (HS0.out.step hb1).step hb2
  clear hb1 hb2 HM HS0
  obtain ⟨x0, x1, _⟩ := HS2.out
  obtain ⟨f, HF⟩ : ∃ f, Hid (fewL [(x, y)] = f) := ⟨_, rfl⟩
  go_wp2_with fail
  refine (few_any [(x, y)] (fun p hp => by rw [List.mem_singleton.1 hp]; exact HZ.out) _ 1 1 _ _ (by decide) _ (pars_one w2 x y)).mono ?_
  rintro e w3 ⟨rfl, hb3⟩
  rw [HF.out]
  have HS3 : Hid (BoxP w x y w3) := (HS2.out.step ((Below.refl _ _).alloc (Nat.le_refl _) _)).step hb3
  clear hb3 x0 x1 HS2
  cases f
  · go_wp2
    go_ret
    exact ⟨rfl, HS3.out.2.2.bel⟩
  have hsm := (fewL_small HF.out).2 (x, y) (by simp)
  have hx4 : x.size ≤ 4000 := by simp only at hsm; omega
  obtain ⟨x0, x1, _⟩ := HS3.out
  obtain ⟨n, HN⟩ : ∃ n : ByteArray, Hid (bs (x.data.toList.map low) = n) := ⟨_, rfl⟩
  have hn4 : n.size ≤ 4000 := by
    rw [← HN.out, bs_size, List.length_map]
    have : x.data.toList.length = x.size := Array.length_toList
    omega
  obtain ⟨q, HQ⟩ : ∃ q, Hid (plainL x.data.toList y.data.toList = q) := ⟨_, rfl⟩
  have HQ2 : Hid (plainL n.data.toList y.data.toList = q) := by
    show _ = _
    rw [← HN.out, bs_data, plain_low, HQ.out]
  have hyz := HZ.out.2
  have HA : Hid (∀ w', Below (w3.alloc (.cells #[.string x, .string y] 24)).heap.size (w3.alloc (.cells #[.string x, .string y] 24)) w' → BoxP w x y w' ∧ w3.heap.size < w'.heap.size ∧ w'.heap[w3.heap.size]? = some (.cells #[.string x, .string y] 24 (0, 0))) := fun w' hb => by
    have hb0 : Below w3.heap.size w3 (w3.alloc (.cells #[.string x, .string y] 24)) := (Below.refl _ _).alloc (Nat.le_refl _) _
    have hz := hb.size
    rw [show (w3.alloc (.cells #[.string x, .string y] 24)).heap.size = w3.heap.size + 1 by simp] at hz
    exact ⟨(HS3.out.step hb0).step hb, by omega, (hb.block _ (by simp)).trans (heap_alloc_new w3 _)⟩
  clear hsm
  obtain ⟨z0, z1, _⟩ := (HA.out _ (Below.refl _ _)).1
  go_wp2_with fail
  refine (lower_any x _ hx4).mono ?_
  rintro e w4 ⟨rfl, hb4⟩
  rw [HN.out]
  have HA4 := HA.out _ hb4
  have HS4 : Hid (BoxP w x y w4 ∧ w3.heap.size < w4.heap.size ∧ w4.heap[w3.heap.size]? = some (.cells #[.string x, .string y] 24 (0, 0)) ∧ w.heap.size < w3.heap.size) := ⟨HA4.1, HA4.2.1, HA4.2.2, HS3.out.2.2.siz⟩
  obtain ⟨y0, y1, fy⟩ := two_at HA4.2.2
  clear hb4 HA HA4 HS3 x0 x1 z0 z1
  go_upto_region 7 with fail
  have hS : S8 w w3.heap.size x y n (w4.setCell ⟨w3.heap.size, 0, none⟩ (.string n)) := s8_set HS4.out.1 y0 y1 HS4.out.2.2.2 HS4.out.2.1
  generalize hW5 : w4.setCell ⟨w3.heap.size, 0, none⟩ (.string n) = W5 at hS ⊢
  clear hW5 y0 y1 fy HS4
  generalize w3.heap.size = g at hS ⊢
  have p1 : PlIs x y q := ⟨hx4, hyz, HQ.out⟩
  have p2 : PlIs n y q := ⟨hn4, hyz, HQ2.out⟩
  have HIN : Hid (q = true → n ∈ plain4) := fun h => by rw [← HN.out]; exact plain_in _ _ (HQ.out.trans h)
  clear hx4 hyz hn4 HQ HQ2 HN HZ HF
  cases q
  · have hSd : S8 w g x y n W5.drew := hS.step (Below.refl _ _).drew
    refine wp_region_held_drew (S := fun W => W.cell? ⟨w.heap.size, 0, none⟩ = some (.string x) ∧ W.cell? ⟨w.heap.size, 1, none⟩ = some (.string y) ∧ W.cell? ⟨g, 0, none⟩ = some (.string n) ∧ W.cell? ⟨g, 1, none⟩ = some (.string y) ∧ Hid (KeepW w W ∧ w.heap.size < g ∧ g < W.heap.size)) (by kernel_rfl) hSd (fun hHeld => ?_)
    refine takeH (i := 0) (d := some 19) (v := ?_) rfl rfl (by kernel_rfl) (by kernel_rfl) (by kernel_rfl) (fun _ _ _ h => h) (by rfl) ?_ (by assumption) ?_
    rotate_left
    · intro w hSw; (try dsimp only at hSw); obtain ⟨q0, q1, q2, q3, _⟩ := hSw; go_simp; with_reducible rfl
    try simp only [Act.put, List.setIfInBounds_toArray, List.set_cons_zero, List.set_cons_succ]
    refine takeH (i := 2) (d := some 21) (v := ?_) rfl rfl (by kernel_rfl) (by kernel_rfl) (by kernel_rfl) (fun _ _ _ h => h) (by rfl) ?_ (by assumption) ?_
    rotate_left
    · intro w hSw; (try dsimp only at hSw); obtain ⟨q0, q1, q2, q3, _⟩ := hSw; go_simp; with_reducible rfl
    try simp only [Act.put, List.setIfInBounds_toArray, List.set_cons_zero, List.set_cons_succ]
    refine wpAnyH_ready (rs := [1]) (by kernel_rfl) (by simp) ?_
    refine AllReadyH.cons (by rfl) (fun K hKK => ?_) AllReadyH.nil
    go_simp
    refine (plain_is x y false p1 _).mono ?_
    rintro e w6 ⟨rfl, hb6⟩
    have hS6 := S8.step hSd hb6
    go_wp2_with fail
    refine hKK.out _ _ hS6 (fun hHeld6 => ?_)
    clear hKK K
    try simp only [Act.put, List.setIfInBounds_toArray, List.set_cons_zero, List.set_cons_succ]
    refine wpAnyH_ready (rs := [3]) (by kernel_rfl) (by simp) ?_
    refine AllReadyH.cons (by rfl) (fun K hKK => ?_) AllReadyH.nil
    go_simp
    refine (plain_is n y false p2 _).mono ?_
    rintro e w7 ⟨rfl, hb7⟩
    have hS7 := S8.step hS6 hb7
    go_wp2_with fail
    refine hKK.out _ _ hS7 (fun hHeld7 => ?_)
    clear hKK K
    try simp only [Act.put, List.setIfInBounds_toArray, List.set_cons_zero, List.set_cons_succ]
    refine takeH (i := 4) (d := some 23) (v := ?_) rfl rfl (by kernel_rfl) (by kernel_rfl) (by kernel_rfl) (fun _ _ _ h => h) (by rfl) ?_ (by assumption) ?_
    rotate_left
    · intro w hSw; (try dsimp only at hSw); obtain ⟨q0, q1, q2, q3, _⟩ := hSw; go_simp; with_reducible rfl
    try simp only [Act.put, List.setIfInBounds_toArray, List.set_cons_zero, List.set_cons_succ]
    refine takeH (i := 5) (d := some 24) (v := ?_) rfl rfl (by kernel_rfl) (by kernel_rfl) (by kernel_rfl) (fun _ _ _ h => h) (by rfl) ?_ (by assumption) ?_
    rotate_left
    · intro w hSw; (try dsimp only at hSw); obtain ⟨q0, q1, q2, q3, _⟩ := hSw; go_simp; with_reducible rfl
    try simp only [Act.put, List.setIfInBounds_toArray, List.set_cons_zero, List.set_cons_succ]
    refine takeH (i := 6) (d := some 25) (v := ?_) rfl rfl (by kernel_rfl) (by kernel_rfl) (by kernel_rfl) (fun _ _ _ h => h) (by rfl) ?_ (by assumption) ?_
    rotate_left
    · intro w hSw; (try dsimp only at hSw); obtain ⟨q0, q1, q2, q3, _⟩ := hSw; go_simp; with_reducible rfl
    try simp only [Act.put, List.setIfInBounds_toArray, List.set_cons_zero, List.set_cons_succ]
    refine wpAnyH_ready (rs := [7]) (by kernel_rfl) (by simp) ?_
    refine AllReadyH.cons (by rfl) (fun K hKK => ?_) AllReadyH.nil
    go_simp
    refine (plain_is x y false p1 _).mono ?_
    rintro e w8 ⟨rfl, hb8⟩
    have hS8 := S8.step hS7 hb8
    go_wp2_with fail
    refine hKK.out _ _ hS8 (fun hHeld8 => ?_)
    clear hKK K
    try simp only [Act.put, List.setIfInBounds_toArray, List.set_cons_zero, List.set_cons_succ]
    refine takeH (i := 8) (d := some 27) (v := ?_) rfl rfl (by kernel_rfl) (by kernel_rfl) (by kernel_rfl) (fun _ _ _ h => h) (by rfl) ?_ (by assumption) ?_
    rotate_left
    · intro w hSw; (try dsimp only at hSw); obtain ⟨q0, q1, q2, q3, _⟩ := hSw; go_simp; with_reducible rfl
    try simp only [Act.put, List.setIfInBounds_toArray, List.set_cons_zero, List.set_cons_succ]
    refine takeH (i := 9) (d := some 28) (v := ?_) rfl rfl (by kernel_rfl) (by kernel_rfl) (by kernel_rfl) (fun _ _ _ h => h) (by rfl) ?_ (by assumption) ?_
    rotate_left
    · intro w hSw; (try dsimp only at hSw); obtain ⟨q0, q1, q2, q3, _⟩ := hSw; go_simp; with_reducible rfl
    try simp only [Act.put, List.setIfInBounds_toArray, List.set_cons_zero, List.set_cons_succ]
    refine skipH (i := 10) (d := some 29) rfl rfl (by kernel_rfl) (by kernel_rfl) (by kernel_rfl) (fun _ _ _ h => h) (by rfl) (by assumption) ?_
    try simp only [Act.put, List.setIfInBounds_toArray, List.set_cons_zero, List.set_cons_succ]
    refine skipH (i := 11) (d := some 30) rfl rfl (by kernel_rfl) (by kernel_rfl) (by kernel_rfl) (fun _ _ _ h => h) (by rfl) (by assumption) ?_
    try simp only [Act.put, List.setIfInBounds_toArray, List.set_cons_zero, List.set_cons_succ]
    refine skipH (i := 12) (d := some 31) rfl rfl (by kernel_rfl) (by kernel_rfl) (by kernel_rfl) (fun _ _ _ h => h) (by rfl) (by assumption) ?_
    try simp only [Act.put, List.setIfInBounds_toArray, List.set_cons_zero, List.set_cons_succ]
    refine skipH (i := 13) (d := some 32) rfl rfl (by kernel_rfl) (by kernel_rfl) (by kernel_rfl) (fun _ _ _ h => h) (by rfl) (by assumption) ?_
    try simp only [Act.put, List.setIfInBounds_toArray, List.set_cons_zero, List.set_cons_succ]
    refine takeH (i := 14) (d := some 33) (v := ?_) rfl rfl (by kernel_rfl) (by kernel_rfl) (by kernel_rfl) (fun _ _ _ h => h) (by rfl) ?_ (by assumption) ?_
    rotate_left
    · intro w hSw; (try dsimp only at hSw); obtain ⟨q0, q1, q2, q3, _⟩ := hSw; go_simp; with_reducible rfl
    try simp only [Act.put, List.setIfInBounds_toArray, List.set_cons_zero, List.set_cons_succ]
    refine takeH (i := 15) (d := some 34) (v := ?_) rfl rfl (by kernel_rfl) (by kernel_rfl) (by kernel_rfl) (fun _ _ _ h => h) (by rfl) ?_ (by assumption) ?_
    rotate_left
    · intro w hSw; (try dsimp only at hSw); obtain ⟨q0, q1, q2, q3, _⟩ := hSw; go_simp; with_reducible rfl
    try simp only [Act.put, List.setIfInBounds_toArray, List.set_cons_zero, List.set_cons_succ]
    refine takeH (i := 16) (d := some 2) (v := ?_) rfl rfl (by kernel_rfl) (by kernel_rfl) (by kernel_rfl) (fun _ _ _ h => h) (by rfl) ?_ (by assumption) ?_
    rotate_left
    · intro w hSw; (try dsimp only at hSw); obtain ⟨q0, q1, q2, q3, _⟩ := hSw; go_simp; with_reducible rfl
    try simp only [Act.put, List.setIfInBounds_toArray, List.set_cons_zero, List.set_cons_succ]
    refine wpAnyH_done (by kernel_rfl) ?_ _
    go_wp2
    go_ret
    exact ⟨by first | rfl | simp, hS8.2.2.2.2.out.1.bel⟩
  · have hin : n ∈ plain4 := HIN.out rfl
    clear HIN
    go_region_held3 (fun W => W.cell? ⟨w.heap.size, 0, none⟩ = some (.string x) ∧ W.cell? ⟨w.heap.size, 1, none⟩ = some (.string y) ∧ W.cell? ⟨g, 0, none⟩ = some (.string n) ∧ W.cell? ⟨g, 1, none⟩ = some (.string y) ∧ Hid (KeepW w W ∧ w.heap.size < g ∧ g < W.heap.size)) (first | assumption | exact hS.step (Below.refl _ _).drew | exact S8.new (by assumption)) (first
      | (go_at_call 11; refine (plain_is _ _ _ (by assumption) _).mono ?_; rintro e w6 ⟨rfl, hb6⟩; have hS6 := S8.step (by assumption) hb6)
      | (go_at_call 10; refine (con4 _ n hin).mono ?_; rintro e w8 ⟨rfl, hb8⟩; have hS8 := S8.step (S8.new hS6) hb8))
    go_wp2
    go_ret
    exact ⟨by simp, hS8.2.2.2.2.out.1.bel⟩
end Go.Proofs.YtbhnaekkjpcafabDoor
