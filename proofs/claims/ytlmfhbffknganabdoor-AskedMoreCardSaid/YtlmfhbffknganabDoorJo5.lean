/- Texts of one claim, joined: each begins with what it proves. -/
import Derived.Test.YtlmfhbffknganabDoorJo3
import Derived.Test.YtlmfhbffknganabDoorJo4
import Derived.Test.YtlmfhbffknganabDoorJo1
import Derived.Deep.Cut
import Derived.Deep.CutRange
import Derived.Deep.DeepCutAuto
import Derived.ProofKit
import Derived.OpenShut
import Derived.SliceStrings
import Derived.Carry
import Derived.SizedLaws
import Derived.Deep.Slices
import Derived.Deep.SlicePairs
import Derived.Deep.Strs
import Derived.Lib.SmallJoins
/- The law AskedMore, walked. -/
namespace Go.Proofs.YtlmfhbffknganabDoor
open Go.RowKit Go.Shelf

theorem OwnP.mono {w : World} {B C : Nat} {v : Value} {ps : List Par} (h : OwnP w B v ps) (hc : C ≤ B) : OwnP w C v ps := by
  refine ⟨h.1, ?_⟩
  rcases h.2 with h0 | ⟨g, cap, cur, e, hB, r⟩
  · exact .inl h0
  · exact .inr ⟨g, cap, cur, e, Nat.le_trans hc hB, r⟩
theorem OwnS.mono {w : World} {B C : Nat} {v : Value} {xs : List ByteArray} (h : OwnS w B v xs) (hc : C ≤ B) : OwnS w C v xs := by
  refine ⟨h.1, ?_⟩
  rcases h.2 with h0 | ⟨g, cap, cur, e, hB, r⟩
  · exact .inl h0
  · exact .inr ⟨g, cap, cur, e, Nat.le_trans hc hB, r⟩
theorem pars_one8 (w : World) (x y : ByteArray) : Pars (w.alloc (.cells #[.string x, .string y] 24)) (some ⟨w.heap.size, 0, none⟩) 1 w.heap.size 0 [(x, y)] := by
  refine ⟨rfl, fun _ => ⟨rfl, by simp⟩, fun j p hp => ?_, fun j p hp => ?_⟩
  · match j, hp with
    | 0, hp => cases hp; exact World.cell?_alloc_mark _ _ _ _ _
    | j + 1, hp => simp at hp
  · match j, hp with
    | 0, hp => cases hp; exact World.cell?_alloc_mark _ _ _ _ _
    | j + 1, hp => simp at hp
/-- A row of texts has one of its own. -/
theorem con_any (a : Option Addr) (n c g : Nat) (xs : List ByteArray) (x : ByteArray) (hn : n ≤ 1000000) (w : World) (h : Strs w a n g 0 xs) (hx : x ∈ xs) :
    Calls Tryd.prog 9 #[.slice a n c, .string x] w fun e w' => e = .returned (.bool true) ∧ w' = w := by
  have hl := h.len_eq
  have h0 : 0 < n := by rw [← hl]; exact List.length_pos_of_mem hx
  obtain ⟨ha, _⟩ := h.lies h0
  subst ha
  refine (Any.slices_Contains_string lays110 g 0 n c xs x w (by omega) (by omega) (fun j hj => ?_)).mono ?_
  · have h1 := h.cells j xs[j] (List.getElem?_eq_getElem hj)
    rw [h1]
    simp [List.getD, List.getElem?_eq_getElem hj]
  · rintro e w' ⟨rfl, rfl⟩
    refine ⟨?_, rfl⟩
    have h2 : Lib.containsS (xs.take n) x = true := (Lib.containsS_iff _ _).2 (by rw [List.take_of_length_le (by omega)]; exact hx)
    rw [h2]
set_option maxRecDepth 100000 in
set_option maxHeartbeats 8000000 in
theorem askedMore_walk (a0 : Option Addr) (len cap b off : Nat) (ps : List Par) (hl : len ≤ cap ∧ cap ≤ 9223372036854775807) (hz : ∀ p ∈ ps, p.1.size ≤ 140737488355328 ∧ p.2.size ≤ 140737488355328) (x y : ByteArray) (hxy : x.size ≤ 140737488355328 ∧ y.size ≤ 140737488355328) (w : World) (hx : Pars w a0 len b off ps) (hm : Methods w) :
    Calls Tryd.prog 3 #[.slice a0 len cap, .agg #[.string x, .string y]] w fun e w' => e = .returned (.bool true) ∧ Below w.heap.size w w' := by
  have hb0 : Below w.heap.size w (w.alloc (.cells #[.string x, .string y] 24)) := (Below.refl _ _).alloc (Nat.le_refl _) _
  have HS0 : Hid (BoxP w x y (w.alloc (.cells #[.string x, .string y] 24)) ∧ Pars (w.alloc (.cells #[.string x, .string y] 24)) a0 len b off ps ∧ Methods (w.alloc (.cells #[.string x, .string y] 24))) := ⟨boxP_new w x y, hx.below hb0, hm.below hb0 (Nat.le_refl _)⟩
  have HLEN : Hid (ps.length = len) := hx.len_eq
  have HZ : Hid (∀ p ∈ ps, p.1.size ≤ 140737488355328 ∧ p.2.size ≤ 140737488355328) := hz
  have HXY : Hid (x.size ≤ 140737488355328 ∧ y.size ≤ 140737488355328) := hxy
  have hlb : len ≤ 9223372036854775807 := Nat.le_trans hl.1 hl.2
  clear hx hz hl hm hb0 hxy
  go_enter Tryd.func3, Tryd.ntmps3
  go_wp2_with fail
  generalize hWA : w.alloc (.cells #[.string x, .string y] 24) = WA at HS0 ⊢
  clear hWA
  refine (fetched_any _ HS0.out.2.2).mono ?_
  rintro e w1 ⟨rfl, hb1⟩
  go_wp2_with fail
  refine (coded_any _).mono ?_
  rintro e w2 ⟨rfl, hb2⟩
  have HS2 : Hid (BoxP w x y w2 ∧ Pars w2 a0 len b off ps) := ⟨(HS0.out.1.step hb1).step hb2, (HS0.out.2.1.below hb1).below hb2⟩
  clear hb1 hb2 HS0
  obtain ⟨f, HF⟩ : ∃ f, Hid (fewL ps = f) := ⟨_, rfl⟩
  go_wp2_with fail
  refine (few_any ps HZ.out a0 len cap b off hlb _ HS2.out.2).mono ?_
  rintro e w3 ⟨rfl, hb3⟩
  rw [HF.out]
  have HS3 : Hid (BoxP w x y w3 ∧ Pars w3 a0 len b off ps) := ⟨HS2.out.1.step hb3, HS2.out.2.below hb3⟩
  clear hb3 HS2 hlb
  cases f
  · go_wp2
    go_ret
    exact ⟨rfl, HS3.out.1.2.2.bel⟩
  obtain ⟨x0, x1, _⟩ := HS3.out.1
  obtain ⟨f2, HF2⟩ : ∃ f, Hid (fewL [(x, y)] = f) := ⟨_, rfl⟩
  go_wp2_with fail
  refine (few_any [(x, y)] (fun p hp => by rw [List.mem_singleton.1 hp]; exact HXY.out) _ 1 1 _ _ (by decide) _ (pars_one8 w3 x y)).mono ?_
  rintro e w4 ⟨rfl, hb4⟩
  rw [HF2.out]
  have hb34 : Below w3.heap.size w3 (w3.alloc (.cells #[.string x, .string y] 24)) := (Below.refl _ _).alloc (Nat.le_refl _) _
  have HS4 : Hid (BoxP w x y w4 ∧ Pars w4 a0 len b off ps) := ⟨(HS3.out.1.step hb34).step hb4, (HS3.out.2.below hb34).below hb4⟩
  clear hb4 hb34 x0 x1 HS3
  cases f2
  · go_wp2
    go_ret
    exact ⟨rfl, HS4.out.1.2.2.bel⟩
  have hsm := fewL_small HF.out
  have hsm2 := (fewL_small HF2.out).2 (x, y) (by simp)
  have HSM : Hid (Small8 ps) := fun p hp => by have := hsm.2 p hp; exact ⟨by omega, by omega⟩
  have hxs : x.size ≤ 300 := by simp only at hsm2; omega
  have hys : y.size ≤ 300 := by simp only at hsm2; omega
  have HSMX : Hid (Small8 (ps ++ [(x, y)])) := fun p hp => by
    rcases List.mem_append.1 hp with h | h
    · exact HSM.out p h
    · rw [List.mem_singleton.1 h]; exact ⟨by show x.size ≤ 3000; omega, by show y.size ≤ 3000; omega⟩
  have hlen : len ≤ 40 := by have := HLEN.out; omega
  clear hsm hsm2 HF HF2
  go_wp2_with fail
  refine (asked8_any ps HSM.out a0 len cap b off (by omega) _ HS4.out.2).mono ?_
  rintro e w5 ⟨⟨u, rfl, hown⟩, hb5⟩
  obtain ⟨a, c, g, rfl, hst⟩ := hown.strs
  obtain ⟨n, HN⟩ : ∃ n, Hid ((askedL ps).length = n) := ⟨_, rfl⟩
  have hn60 : n ≤ 60 := by have h1 := asked_len ps; have h2 := HN.out; have h3 := HLEN.out; omega
  rw [HN.out] at hst ⊢
  have HS5 : Hid (BoxP w x y w5 ∧ Pars w5 a0 len b off ps ∧ Strs w5 a n g 0 (askedL ps)) := ⟨HS4.out.1.step hb5, HS4.out.2.below hb5, hst⟩
  clear hown hb5 hst HS4
  go_upto_region 6 with fail
  generalize w5 = W0 at HS5 ⊢
  have HX0 : Hid (Pars W0 a0 len b off ps) := HS5.out.2.1
  have hbase : ∀ W, Below W0.heap.size W0 W → W.cell? ⟨w.heap.size, 0, none⟩ = some (.string x) ∧ W.cell? ⟨w.heap.size, 1, none⟩ = some (.string y) ∧ Hid (Below W0.heap.size W0 W) := fun W hW => ⟨(HS5.out.1.step hW).1, (HS5.out.1.step hW).2.1, hW⟩
  have hask : ∀ W gg cc, OwnP W W0.heap.size (.slice (some ⟨gg, 0, none⟩) (ps.length + 1) cc) (ps ++ [(x, y)]) → Calls Tryd.prog 7 #[.slice (some ⟨gg, 0, none⟩) (ps.length + 1) cc] W fun e w' => (∃ v, e = .returned v ∧ OwnS w' W.heap.size v (askedL (ps ++ [(x, y)]))) ∧ Below W.heap.size W w' := fun W gg cc hW => by
    obtain ⟨aa, c2, g2, e, hp, _⟩ := hW.pars
    rw [List.length_append, List.length_singleton] at e hp
    injection e with e1 _ e3
    subst e1 e3
    exact asked8_any (ps ++ [(x, y)]) HSMX.out _ _ cc g2 0 (by have := HLEN.out; omega) W hp
  have hpl : ps.length ≤ 40 := by have := HLEN.out; omega
  go_cut [6] (fun s6 wc => ∃ u6 : Value, u6 = s6 ∧ Hid (Below W0.heap.size W0 wc ∧ OwnS wc W0.heap.size u6 (askedL (ps ++ [(x, y)]))))
  case first =>
    refine wp_region_held_drew (S := fun W => W.cell? ⟨w.heap.size, 0, none⟩ = some (.string x) ∧ W.cell? ⟨w.heap.size, 1, none⟩ = some (.string y) ∧ Hid (Below W0.heap.size W0 W)) (by kernel_rfl) (hbase _ (Below.refl _ _).drew) (fun hHeld => ?_)
    refine takeH (i := 0) (d := some 26) (v := ?_) rfl rfl (by kernel_rfl) (by kernel_rfl) (by kernel_rfl) (fun _ _ _ h => h) (by rfl) ?_ (by assumption) ?_
    rotate_left
    · intro w hSw; (try dsimp only at hSw); obtain ⟨q0, q1, _⟩ := hSw; go_simp; with_reducible rfl
    try simp only [Act.put, List.setIfInBounds_toArray, List.set_cons_zero, List.set_cons_succ]
    refine takeH (i := 2) (d := some 28) (v := ?_) rfl rfl (by kernel_rfl) (by kernel_rfl) (by kernel_rfl) (fun _ _ _ h => h) (by rfl) ?_ (by assumption) ?_
    rotate_left
    · intro w hSw; (try dsimp only at hSw); obtain ⟨q0, q1, _⟩ := hSw; go_simp; with_reducible rfl
    try simp only [Act.put, List.setIfInBounds_toArray, List.set_cons_zero, List.set_cons_succ]
    refine wpAnyH_ready (rs := [1, 3]) (by kernel_rfl) (by simp) ?_
    refine AllReadyH.cons (by rfl) (fun K hKK => ?_) (AllReadyH.cons (by rfl) (fun K hKK => ?_) AllReadyH.nil)
    · skip
      go_simp
      refine (cloneP_own ps a0 len cap b off (by omega) _ (HX0.out.below (show Below W0.heap.size W0 W0.drew from (Below.refl _ _).drew))).mono ?_
      rintro e w5 ⟨⟨v5, rfl, hv5⟩, hb5⟩
      have HB5 : Hid (Below W0.heap.size W0 w5) := (show Below W0.heap.size W0 W0.drew from (Below.refl _ _).drew).trans (hb5.mono (show Below W0.heap.size W0 W0.drew from (Below.refl _ _).drew).size)
      have HV5 : Hid (OwnP w5 W0.heap.size v5 ps) := hv5.mono (show Below W0.heap.size W0 W0.drew from (Below.refl _ _).drew).size
      go_wp2_with fail
      refine hKK.out _ _ (hbase _ HB5.out) (fun hHeld => ?_)
      clear hKK K
      try simp only [Act.put, List.setIfInBounds_toArray, List.set_cons_zero, List.set_cons_succ]
      refine wpAnyH_ready (rs := [3]) (by kernel_rfl) (by simp) ?_
      refine AllReadyH.cons (by rfl) (fun K hKK => ?_) AllReadyH.nil
      go_simp
      have HB6 : Hid (Below W0.heap.size W0 (w5.alloc (.cells #[.string x, .string y] 24))) := HB5.out.alloc HB5.out.size _
      refine hKK.out _ _ (hbase _ HB6.out) (fun hHeld => ?_)
      clear hKK K
      try simp only [Act.put, List.setIfInBounds_toArray, List.set_cons_zero, List.set_cons_succ]
      refine wpAnyH_ready (rs := [4]) (by kernel_rfl) (by simp) ?_
      refine AllReadyH.cons (by rfl) (fun K hKK => ?_) AllReadyH.nil
      refine wp_appq _ _ rfl W0.heap.size (w5.alloc (.cells #[.string x, .string y] 24)) v5 ps rfl (HV5.out.below ((Below.refl _ _).alloc (Nat.le_refl _) _)) (by omega) HB6.out.size (x, y) w5.heap.size rfl (World.cell?_alloc_mark _ _ _ _ _) (World.cell?_alloc_mark _ _ _ _ _) ?_
      intro g8 cap8 w8 hown8 hb8
      have HB8 : Hid (Below W0.heap.size W0 w8) := HB6.out.trans hb8
      have HV8 : Hid (OwnP w8 W0.heap.size (.slice (some ⟨g8, 0, none⟩) (ps.length + 1) cap8) (ps ++ [(x, y)])) := hown8
      clear hown8 hb8
      refine hKK.out _ _ (hbase _ HB8.out) (fun hHeld => ?_)
      clear hKK K
      try simp only [Act.put, List.setIfInBounds_toArray]
      refine wpAnyH_ready (rs := [5]) (by kernel_rfl) (by simp) ?_
      refine AllReadyH.cons (by rfl) (fun K hKK => ?_) AllReadyH.nil
      go_simp
      refine (hask _ _ _ HV8.out).mono ?_
      rintro e w9 ⟨⟨u9, rfl, hown9⟩, hb9⟩
      have HB9 : Hid (Below W0.heap.size W0 w9) := HB8.out.trans (hb9.mono HB8.out.size)
      have HO9 : Hid (OwnS w9 W0.heap.size u9 (askedL (ps ++ [(x, y)]))) := hown9.mono HB8.out.size
      clear hown9 hb9
      go_wp2_with fail
      refine hKK.out _ _ (hbase _ HB9.out) (fun hHeld => ?_)
      clear hKK K
      try simp only [Act.put, List.setIfInBounds_toArray, List.set_cons_zero, List.set_cons_succ]
      refine takeH (i := 6) (d := some 6) (v := ?_) rfl rfl (by kernel_rfl) (by kernel_rfl) (by kernel_rfl) (fun _ _ _ h => h) (by rfl) ?_ (by assumption) ?_
      rotate_left
      · intro w hSw; (try dsimp only at hSw); obtain ⟨q0, q1, _⟩ := hSw; go_simp; with_reducible rfl
      try simp only [Act.put, List.setIfInBounds_toArray, List.set_cons_zero, List.set_cons_succ]
      refine wpAnyH_done (by kernel_rfl) ?_ _
      go_wp2_with fail
      go_meet
      exact ⟨u9, rfl, ⟨HB9.out, HO9.out⟩⟩
    · skip
      go_simp
      have HB6 : Hid (Below W0.heap.size W0 (W0.drew.alloc (.cells #[.string x, .string y] 24))) := (Below.refl _ _).drew.alloc (Nat.le_refl _) _
      refine hKK.out _ _ (hbase _ HB6.out) (fun hHeld => ?_)
      clear hKK K
      try simp only [Act.put, List.setIfInBounds_toArray, List.set_cons_zero, List.set_cons_succ]
      refine wpAnyH_ready (rs := [1]) (by kernel_rfl) (by simp) ?_
      refine AllReadyH.cons (by rfl) (fun K hKK => ?_) AllReadyH.nil
      go_simp
      refine (cloneP_own ps a0 len cap b off (by omega) _ (HX0.out.below HB6.out)).mono ?_
      rintro e w5 ⟨⟨v5, rfl, hv5⟩, hb5⟩
      have HB5 : Hid (Below W0.heap.size W0 w5) := HB6.out.trans (hb5.mono HB6.out.size)
      have HV5 : Hid (OwnP w5 W0.heap.size v5 ps) := hv5.mono HB6.out.size
      go_wp2_with fail
      have n0 : w5.cell? ⟨W0.heap.size, 0, none⟩ = some (.string x) := (hb5.cell (p := ⟨W0.heap.size, 0, none⟩) (by simp)).trans (World.cell?_alloc_mark _ _ _ _ _)
      have n1 : w5.cell? ⟨W0.heap.size, 1, none⟩ = some (.string y) := (hb5.cell (p := ⟨W0.heap.size, 1, none⟩) (by simp)).trans (World.cell?_alloc_mark _ _ _ _ _)
      refine hKK.out _ _ (hbase _ HB5.out) (fun hHeld => ?_)
      clear hKK K
      try simp only [Act.put, List.setIfInBounds_toArray, List.set_cons_zero, List.set_cons_succ]
      refine wpAnyH_ready (rs := [4]) (by kernel_rfl) (by simp) ?_
      refine AllReadyH.cons (by rfl) (fun K hKK => ?_) AllReadyH.nil
      refine wp_appq _ _ rfl W0.heap.size w5 v5 ps rfl HV5.out (by omega) HB5.out.size (x, y) W0.heap.size rfl n0 n1 ?_
      intro g8 cap8 w8 hown8 hb8
      have HB8 : Hid (Below W0.heap.size W0 w8) := HB5.out.trans hb8
      have HV8 : Hid (OwnP w8 W0.heap.size (.slice (some ⟨g8, 0, none⟩) (ps.length + 1) cap8) (ps ++ [(x, y)])) := hown8
      clear hown8 hb8
      refine hKK.out _ _ (hbase _ HB8.out) (fun hHeld => ?_)
      clear hKK K
      try simp only [Act.put, List.setIfInBounds_toArray]
      refine wpAnyH_ready (rs := [5]) (by kernel_rfl) (by simp) ?_
      refine AllReadyH.cons (by rfl) (fun K hKK => ?_) AllReadyH.nil
      go_simp
      refine (hask _ _ _ HV8.out).mono ?_
      rintro e w9 ⟨⟨u9, rfl, hown9⟩, hb9⟩
      have HB9 : Hid (Below W0.heap.size W0 w9) := HB8.out.trans (hb9.mono HB8.out.size)
      have HO9 : Hid (OwnS w9 W0.heap.size u9 (askedL (ps ++ [(x, y)]))) := hown9.mono HB8.out.size
      clear hown9 hb9
      go_wp2_with fail
      refine hKK.out _ _ (hbase _ HB9.out) (fun hHeld => ?_)
      clear hKK K
      try simp only [Act.put, List.setIfInBounds_toArray, List.set_cons_zero, List.set_cons_succ]
      refine takeH (i := 6) (d := some 6) (v := ?_) rfl rfl (by kernel_rfl) (by kernel_rfl) (by kernel_rfl) (fun _ _ _ h => h) (by rfl) ?_ (by assumption) ?_
      rotate_left
      · intro w hSw; (try dsimp only at hSw); obtain ⟨q0, q1, _⟩ := hSw; go_simp; with_reducible rfl
      try simp only [Act.put, List.setIfInBounds_toArray, List.set_cons_zero, List.set_cons_succ]
      refine wpAnyH_done (by kernel_rfl) ?_ _
      go_wp2_with fail
      go_meet
      exact ⟨u9, rfl, ⟨HB9.out, HO9.out⟩⟩
  case rest =>
  obtain ⟨u6, rfl, HC⟩ := hcut
  clear hbase hask
  obtain ⟨a6, c6, g6, rfl, hst6⟩ := HC.out.2.strs
  obtain ⟨n6, HN6⟩ : ∃ n, Hid ((askedL (ps ++ [(x, y)])).length = n) := ⟨_, rfl⟩
  have hn6 : n6 ≤ 60 := by have h1 := asked_len (ps ++ [(x, y)]); rw [List.length_append, List.length_singleton] at h1; have h2 := HN6.out; omega
  rw [HN6.out] at hst6 ⊢
  have HK : Hid (BoxP w x y wc ∧ Strs wc a n g 0 (askedL ps) ∧ Strs wc a6 n6 g6 0 (askedL (ps ++ [(x, y)]))) := ⟨HS5.out.1.step HC.out.1, HS5.out.2.2.below HC.out.1, hst6⟩
  clear HC hst6 HS5 HX0
  go_wp2
  go_loop [34] (fun i => ∃ k : Nat, k ≤ n ∧ i = .int .i64 k) (fun i => n - (intOf i).toNat)
  case atStart => exact ⟨0, Nat.zero_le _, rfl⟩
  case round =>
    obtain ⟨k, hk, rfl⟩ := hrel
    by_cases hlt : k < n
    · have hltz : (k : Int) < (n : Int) := by omega
      obtain ⟨z, hz⟩ : ∃ z, (askedL ps)[k]? = some z := ⟨(askedL ps)[k]'(by have := HN.out; omega), List.getElem?_eq_getElem _⟩
      have HIN : Hid (z ∈ askedL (ps ++ [(x, y)])) := asked_more ps (x, y) z (List.mem_of_getElem? hz)
      obtain ⟨ha, _⟩ := HK.out.2.1.lies (by omega)
      subst ha
      have c1 : wc.cell? ⟨g, k, none⟩ = some (.string z) := by
        have := HK.out.2.1.cells k z hz
        rw [Nat.zero_add] at this
        exact this
      clear hz
      go_wp2_with fail
      refine (con_any a6 n6 c6 g6 _ z (by omega) _ HK.out.2.2 HIN.out).mono ?_
      rintro e w' ⟨rfl, hw⟩
      obtain rfl := hw.symm
      go_wp2
      go_round
      case rel => exact ⟨k + 1, by omega, by go_num⟩
      case measure => simp [intOf]; omega
    · have hltz : ¬ (k : Int) < (n : Int) := by omega
      obtain ⟨x0, x1, _⟩ := HK.out.1
      obtain ⟨q, HQ⟩ : ∃ q, Hid (plainL x.data.toList y.data.toList = q) := ⟨_, rfl⟩
      go_wp2_with fail
      refine (plain_any x y (by omega) (by omega) _).mono ?_
      rintro e w7 ⟨rfl, hb7⟩
      rw [HQ.out]
      have HK7 : Hid (BoxP w x y w7 ∧ Strs w7 a6 n6 g6 0 (askedL (ps ++ [(x, y)]))) := ⟨HK.out.1.step hb7, HK.out.2.2.below hb7⟩
      clear hb7 x0 x1 HK
      cases q
      · obtain ⟨x0, x1, _⟩ := HK7.out.1
        obtain ⟨m, HM⟩ : ∃ m : ByteArray, Hid (bs (x.data.toList.map low) = m) := ⟨_, rfl⟩
        have HIN : Hid (m ∈ askedL (ps ++ [(x, y)])) := by
          rw [← HM.out]
          exact asked_self ps (x, y) HQ.out
        go_wp2_with fail
        refine (lower_any x _ (by omega)).mono ?_
        rintro e w8 ⟨rfl, hb8⟩
        rw [HM.out]
        have HK8 : Hid (BoxP w x y w8 ∧ Strs w8 a6 n6 g6 0 (askedL (ps ++ [(x, y)]))) := ⟨HK7.out.1.step hb8, HK7.out.2.below hb8⟩
        clear hb8 x0 x1 HK7
        go_wp2_with fail
        refine (con_any a6 n6 c6 g6 _ m (by omega) _ HK8.out.2 HIN.out).mono ?_
        rintro e w' ⟨rfl, hw⟩
        obtain rfl := hw.symm
        go_wp2
        go_ret
        exact ⟨rfl, HK8.out.1.2.2.bel⟩
      · go_wp2
        go_ret
        exact ⟨rfl, HK7.out.1.2.2.bel⟩
end Go.Proofs.YtlmfhbffknganabDoor

/- What came in: no text of it is longer than a machine can hold. -/
namespace Go.Proofs.YtlmfhbffknganabDoor
open Go.ChangeShapes Go.WideShapes Go.ChangeAt Go.RowKit Go.Joins

theorem laidOutP : laidOutB Tryd.prog = true := by kernel_rfl
theorem weightsAll_mem {H : Type} {P : Program} {e : TypeId} : ∀ {ds : List (DataW H)} {d : DataW H}, d ∈ ds → ∀ n ∈ d.weights P e, n ∈ DataW.weightsAll P e ds
  | d0 :: ds, d, hd, n, hn => by
    rw [DataW.weightsAll, List.mem_append]
    rcases List.mem_cons.1 hd with rfl | h
    · exact .inl hn
    · exact .inr (weightsAll_mem h n hn)
theorem weights_slice {H : Type} {t e : TypeId} (ht : Tryd.prog.underlying t = some (.slice e)) {ds es : List (DataW H)} {d : DataW H} (hd : d ∈ ds) : ∀ n ∈ d.weights Tryd.prog e, n ∈ (DataW.slice ds es).weights Tryd.prog t := by
  intro n hn
  rw [DataW.weights, ht]
  simp only [List.mem_cons, List.mem_append]
  exact .inr (.inl (weightsAll_mem hd n hn))
/-- No text of it is longer than a machine can hold. -/
def Reach {H : Type} (t : TypeId) (d : DataW H) : Prop := ∀ n ∈ d.weights Tryd.prog t, n ≤ 140737488355328
theorem reach_all {H : Type} {ts : List TypeId} {ds : List (DataW H)} (h : (DataW.weightsEach Tryd.prog ts ds).all (· ≤ reachBytes) = true) {j : Nat} {t : TypeId} {d : DataW H} (ht : ts[j]? = some t) (hd : ds[j]? = some d) : Reach t d := fun n hn => by
  have h1 := List.all_eq_true.1 h _ (DataW.weights_mem_each ht hd n hn)
  have h2 : n ≤ reachBytes := of_decide_eq_true h1
  have := reachBytes_lt
  have e3 : (2 : Nat) ^ 47 = 140737488355328 := by decide
  omega
theorem reach_string {H : Type} {t : TypeId} {s : ByteArray} (h : Reach (H := H) t (.lit (.string s.data.toList))) : s.size ≤ 140737488355328 := by
  have := h s.data.toList.length (by simp [DataW.weights])
  rw [Array.length_toList] at this
  exact this
def strOf : Value → ByteArray
  | .string s => s
  | _ => ⟨#[]⟩
end Go.Proofs.YtlmfhbffknganabDoor

/- Parameters that came in: one, and a row of them. -/
namespace Go.Proofs.YtlmfhbffknganabDoor
open Go.ChangeShapes Go.WideShapes Go.ChangeAt Go.RowKit Go.Joins

theorem cellsP : Tryd.prog.cellsOf 24 = 2 := by kernel_rfl
section
variable {H : Type} {enc : TypeId × Value → H} {W : World}
theorem open_pars {fuel : Nat} {v : Value} {x : DataW H × List MemPlace} (h : DataW.trod enc Tryd.prog W 0 (fun _ => true) true fuel 22 [v] = some x) :
    ∃ (a0 : Option Addr) (len cap b off : Nat) (ps : List Par), v = .slice a0 len cap ∧ (len ≤ cap ∧ cap ≤ 9223372036854775807) ∧ Pars W a0 len b off ps ∧ (Reach 22 x.1 → ∀ p ∈ ps, p.1.size ≤ 140737488355328 ∧ p.2.size ≤ 140737488355328) := by
  rcases Go.Deep.open_slice_pairs Tryd.underlying22 Tryd.underlying24 cellsP rfl rfl (by kernel_rfl) (by kernel_rfl) h with ⟨hcs, hx⟩ | ⟨a, len, cap, m, n, V0, V1, D0, D1, P0, P1, hcs, _, hl, hm, hmm, hx, hall⟩
  · simp only [List.cons.injEq, and_true] at hcs
    exact ⟨none, 0, 0, 0, 0, [], hcs, ⟨by omega, by omega⟩, ⟨rfl, fun h => absurd h (by omega), (fun j p hp => by simp at hp), (fun j p hp => by simp at hp)⟩, fun _ p hp => by cases hp⟩
  · simp only [List.cons.injEq, and_true] at hcs
    simp only [if_true] at hmm
    obtain rfl := hmm.symm
    unfold maxLen at hm
    have hS : ∀ i, i < len → V0 i = .string (strOf (V0 i)) ∧ V1 i = .string (strOf (V1 i)) ∧ D0 i = .lit (.string (strOf (V0 i)).data.toList) ∧ D1 i = .lit (.string (strOf (V1 i)).data.toList) := fun i hi => by
      obtain ⟨_, _, t0, t1⟩ := hall i (by omega)
      obtain ⟨s0, e0, x0, _⟩ := DataW.trod_string Tryd.underlying9 t0
      obtain ⟨s1, e1, x1, _⟩ := DataW.trod_string Tryd.underlying9 t1
      simp only [List.cons.injEq, and_true] at e0 e1
      simp only [Prod.mk.injEq] at x0 x1
      rw [e0, e1, x0.1, x1.1]
      exact ⟨rfl, rfl, rfl, rfl⟩
    obtain ⟨b, off, spot⟩ := a
    have hget : ∀ (j : Nat) (p : Par), ((List.range len).map fun i => ((strOf (V0 i), strOf (V1 i)) : Par))[j]? = some p → j < len ∧ p = (strOf (V0 j), strOf (V1 j)) := fun j p hp => by
      rw [List.getElem?_map] at hp
      by_cases hj : j < len
      · rw [List.getElem?_range hj] at hp
        simp only [Option.map_some, Option.some.injEq] at hp
        exact ⟨hj, hp.symm⟩
      · rw [List.getElem?_eq_none (by simp; omega)] at hp
        cases hp
    have hspot : 0 < len → spot = none := fun h0 => by simpa [Addr.add] using World.cell?_spot (hall 0 (by omega)).1
    refine ⟨some ⟨b, off, spot⟩, len, cap, b, off, (List.range len).map fun i => (strOf (V0 i), strOf (V1 i)), hcs, ⟨by omega, by omega⟩, ⟨by simp, fun h0 => ?_, fun j p hp => ?_, fun j p hp => ?_⟩, fun hr p hp => ?_⟩
    · obtain rfl := hspot h0
      refine ⟨rfl, ?_⟩
      have hc := (hall 0 (by omega)).1
      rcases Nat.lt_or_ge b W.heap.size with h1 | h1
      · exact h1
      · simp [World.cell?, Addr.add, Array.getElem?_eq_none h1] at hc
    · obtain ⟨hj, rfl⟩ := hget j p hp
      obtain rfl := hspot (by omega)
      rw [← add_plain]
      exact (hall j (by omega)).1.trans (congrArg some (hS j hj).1)
    · obtain ⟨hj, rfl⟩ := hget j p hp
      obtain rfl := hspot (by omega)
      rw [Nat.add_assoc, ← add_plain]
      exact (hall j (by omega)).2.1.trans (congrArg some (hS j hj).2.1)
    · obtain ⟨i, hi, rfl⟩ := List.mem_map.1 hp
      have hi' : i < len := List.mem_range.1 hi
      have hw : ∀ n ∈ (DataW.agg [D0 i, D1 i]).weights Tryd.prog 24, n ≤ 140737488355328 := fun n hn => by
        refine hr n ?_
        rw [hx]
        exact weights_slice Tryd.underlying22 (List.mem_map.2 ⟨i, hi, rfl⟩) n hn
      rw [(hS i hi').2.2.1, (hS i hi').2.2.2] at hw
      have w0 := hw (strOf (V0 i)).data.toList.length (by simp [DataW.weights, DataW.weightsEach, Tryd.underlying24])
      have w1 := hw (strOf (V1 i)).data.toList.length (by simp [DataW.weights, DataW.weightsEach, Tryd.underlying24])
      rw [Array.length_toList] at w0 w1
      exact ⟨w0, w1⟩
set_option maxRecDepth 100000 in
/-- A parameter that came in. -/
theorem open_param {b0 : Nat} {v : Value} {d : DataW H} {p : List MemPlace} (hv : Value.okWide Tryd.prog W .any b0 24 v) (h : DataW.Trod enc Tryd.prog W 0 (fun _ => true) true 24 v d p) :
    ∃ x y : ByteArray, v = .agg #[.string x, .string y] ∧ (Reach 24 d → x.size ≤ 140737488355328 ∧ y.size ≤ 140737488355328) := by
  obtain ⟨c0, c1, y0, y1, m, rfl, rfl, rfl, g0, g1⟩ := open_agg2 Tryd.underlying24 (by kernel_rfl) (by kernel_rfl) hv h
  obtain ⟨s0, e0, rfl, _⟩ := DataW.trod_string Tryd.underlying9 g0
  obtain ⟨s1, e1, rfl, _⟩ := DataW.trod_string Tryd.underlying9 g1
  simp only [List.cons.injEq, and_true] at e0 e1
  subst e0 e1
  refine ⟨s0, s1, rfl, fun hw => ?_⟩
  have w0 := hw s0.data.toList.length (by simp [DataW.weights, DataW.weightsEach, Tryd.underlying24])
  have w1 := hw s1.data.toList.length (by simp [DataW.weights, DataW.weightsEach, Tryd.underlying24])
  rw [Array.length_toList] at w0 w1
  exact ⟨w0, w1⟩
/-- A row of parameters that came in. -/
theorem open_parsT {v : Value} {d : DataW H} {p : List MemPlace} {a0 : Option Addr} {len cap : Nat} (h : DataW.Trod enc Tryd.prog W 0 (fun _ => true) true 22 v d p) (hv : v = .slice a0 len cap) :
    ∃ (b off : Nat) (ps : List Par), (len ≤ cap ∧ cap ≤ 9223372036854775807) ∧ Pars W a0 len b off ps ∧ (Reach 22 d → ∀ q ∈ ps, q.1.size ≤ 140737488355328 ∧ q.2.size ≤ 140737488355328) := by
  subst hv
  obtain ⟨fuel, hf⟩ := h
  obtain ⟨a1, n1, c1, b, off, ps, e, hl, hp, hr⟩ := open_pars (v := .slice a0 len cap) hf
  injection e with e1 e2 e3
  subst e1 e2 e3
  exact ⟨b, off, ps, hl, hp, hr⟩
end
end Go.Proofs.YtlmfhbffknganabDoor
