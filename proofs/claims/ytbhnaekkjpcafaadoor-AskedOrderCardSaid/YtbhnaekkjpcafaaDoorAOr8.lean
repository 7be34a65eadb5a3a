/- The law AskedOrder, walked. -/
import Derived.Test.YtbhnaekkjpcafaaDoorFtd8
import Derived.Test.YtbhnaekkjpcafaaDoorCoded
import Derived.Test.YtbhnaekkjpcafaaDoorFew8
import Derived.Test.YtbhnaekkjpcafaaDoorOrd8
import Derived.Test.YtbhnaekkjpcafaaDoorRvp8
import Derived.Test.YtbhnaekkjpcafaaDoorRgH
import Derived.Deep.RegionHeld3
import Derived.RegionTactic
namespace Go.Proofs.YtbhnaekkjpcafaaDoor
open Go.RowKit Go.Shelf

theorem leq_no (X Y : ByteArray) (h : (Op.bytesLess X.toList Y.toList || X.toList == Y.toList) = false) (w : World) : (binOp .leq 9 (.string X) (.string Y)).run Tryd.prog w = .ok (.bool false) w := by
  have e : binOp .leq 9 (.string X) (.string Y) = pure (.bool (Op.bytesLess X.toList Y.toList || X.toList == Y.toList)) := by simp [binOp, Op.stringOp]
  rw [e, h]
  rfl
theorem rev_none (p : Option Addr) (cap : Nat) (w : World) : Calls Tryd.prog 24 #[.slice p 0 cap] w fun e w' => e = .returned (.tuple #[]) ∧ w' = w := by
  go_enter Tryd.func24, Tryd.ntmps24
  go_wp2
  refine wp_loop_rounds 1 ?_
  rw [rounds_succ]
  go_wp2
  go_end0
  exact ⟨rfl, rfl⟩
/-- A clone turned around: where it lies then; what else lay there stays. -/
theorem rev_any (ps : List Par) (len : Nat) (hlen : len ≤ 1000) (hl : ps.length = len) (v : Value) (B : Nat) (w : World) (h : CloAns w ps len v B) :
    Calls Tryd.prog 24 #[v] w fun e w' => e = .returned (.tuple #[]) ∧ Hid ((∃ a cap b', v = .slice a len cap ∧ Pars w' a len b' 0 ps.reverse) ∧ ∃ g, B ≤ g ∧ w.grownBy w' (some g)) := by
  obtain ⟨a, cap, rfl, h0 | ⟨g, rfl, hrow, hB⟩⟩ := h
  · subst h0
    obtain rfl : ps = [] := List.eq_nil_of_length_eq_zero hl
    refine (rev_none a cap w).mono ?_
    rintro e w' ⟨rfl, rfl⟩
    exact ⟨rfl, ⟨a, cap, 0, rfl, rfl, fun h => absurd h (by omega), fun j p hp => by simp at hp, fun j p hp => by simp at hp⟩, B, Nat.le_refl _, rfl, rfl, rfl, Nat.le_refl _, fun _ _ _ => rfl⟩
  · refine (reverseP_any ps g len cap hl hlen w hrow).mono ?_
    rintro e w' ⟨rfl, HR⟩
    exact ⟨rfl, ⟨_, cap, g, rfl, HR.out.1.pars (by rw [List.length_reverse, hl])⟩, g, hB, HR.out.2⟩
/-- What stays while the row is gone through: the row, the headers turned around. -/
structure KeepO (w : World) (len : Nat) (ps : List Par) (a : Option Addr) (n c g mb : Nat) (ma : Option Addr) (mc : Nat) (W : World) : Prop where
  str : Strs W a n g 0 (askedL ps)
  par : Pars W ma len mb 0 ps.reverse
  bel : Below w.heap.size w W
theorem KeepO.step {w W W' : World} {len : Nat} {ps : List Par} {a : Option Addr} {n c g mb : Nat} {ma : Option Addr} {mc : Nat} (h : KeepO w len ps a n c g mb ma mc W) (hb : Below W.heap.size W W') : KeepO w len ps a n c g mb ma mc W' :=
  ⟨h.str.below hb, h.par.below hb, h.bel.trans (hb.mono h.bel.size)⟩
theorem SO8.step {w W W' : World} {len : Nat} {ps : List Par} {a : Option Addr} {n c g mb : Nat} {ma : Option Addr} {mc : Nat} {k : Nat} {X : ByteArray} (h : W.cell? ⟨g, k, none⟩ = some (.string X) ∧ Hid (KeepO w len ps a n c g mb ma mc W)) (hb : Below W.heap.size W W') : W'.cell? ⟨g, k, none⟩ = some (.string X) ∧ Hid (KeepO w len ps a n c g mb ma mc W') := by
  refine ⟨?_, h.2.out.step hb⟩
  have hg : g < W.heap.size := by
    rcases Nat.lt_or_ge g W.heap.size with h1 | h1
    · exact h1
    · have := h.1; simp [World.cell?, Array.getElem?_eq_none h1] at this
  exact (hb.cell (p := ⟨g, k, none⟩) hg).trans h.1
theorem SO9.step {w W W' : World} {len : Nat} {ps : List Par} {a : Option Addr} {n c g mb : Nat} {ma : Option Addr} {mc : Nat} {k j : Nat} {X Y : ByteArray} (h : W.cell? ⟨g, k, none⟩ = some (.string X) ∧ W.cell? ⟨g, j, none⟩ = some (.string Y) ∧ Hid (KeepO w len ps a n c g mb ma mc W)) (hb : Below W.heap.size W W') : W'.cell? ⟨g, k, none⟩ = some (.string X) ∧ W'.cell? ⟨g, j, none⟩ = some (.string Y) ∧ Hid (KeepO w len ps a n c g mb ma mc W') := by
  have h1 := SO8.step ⟨h.1, h.2.2⟩ hb
  have h2 := SO8.step ⟨h.2.1, h.2.2⟩ hb
  exact ⟨h1.1, h2.1, h1.2⟩
set_option maxRecDepth 100000 in
set_option maxHeartbeats 8000000 in
theorem askedOrder_walk (a0 : Option Addr) (len cap b off : Nat) (ps : List Par) (hl : len ≤ cap ∧ cap ≤ 9223372036854775807) (hz : ∀ p ∈ ps, p.1.size ≤ 140737488355328 ∧ p.2.size ≤ 140737488355328) (w : World) (hx : Pars w a0 len b off ps) (hm : Methods w) :
    Calls Tryd.prog 7 #[.slice a0 len cap] w fun e w' => e = .returned (.bool true) ∧ Below w.heap.size w w' := by
  have HX : Hid (Pars w a0 len b off ps) := hx
  have HLEN : Hid (ps.length = len) := hx.len_eq
  have HZ : Hid (∀ p ∈ ps, p.1.size ≤ 140737488355328 ∧ p.2.size ≤ 140737488355328) := hz
  have hlb : len ≤ 9223372036854775807 := Nat.le_trans hl.1 hl.2
  clear hx hz hl
  go_enter Tryd.func7, Tryd.ntmps7
  go_wp2_with fail
  refine (fetched_any _ hm).mono ?_
  rintro e w1 ⟨rfl, hb1⟩
  clear hm
  go_wp2_with fail
  refine (coded_any _).mono ?_
  rintro e w2 ⟨rfl, hb2⟩
  have HB2 : Hid (Below w.heap.size w w2) := hb1.trans (hb2.mono hb1.size)
  clear hb1 hb2
  obtain ⟨f, HF⟩ : ∃ f, Hid (fewL ps = f) := ⟨_, rfl⟩
  go_wp2_with fail
  refine (few_any ps HZ.out a0 len cap b off hlb _ (HX.out.below HB2.out)).mono ?_
  rintro e w3 ⟨rfl, hb3⟩
  rw [HF.out]
  have HB3 : Hid (Below w.heap.size w w3) := HB2.out.trans (hb3.mono HB2.out.size)
  clear hb3 HB2 hlb
  cases f
  · go_wp2
    go_ret
    exact ⟨rfl, HB3.out⟩
  have hsm := fewL_small HF.out
  have HSM : Hid (Small8 ps) := fun p hp => by have := hsm.2 p hp; exact ⟨by omega, by omega⟩
  have hlen : len ≤ 60 := by have := HLEN.out; omega
  clear hsm
  go_wp2_with fail
  refine (asked8_any ps HSM.out a0 len cap b off hlen _ (HX.out.below HB3.out)).mono ?_
  rintro e w4 ⟨⟨u, rfl, hown⟩, hb4⟩
  have HB4 : Hid (Below w.heap.size w w4) := HB3.out.trans (hb4.mono HB3.out.size)
  obtain ⟨a, c, g, rfl, hst⟩ := hown.strs
  obtain ⟨n, HN⟩ : ∃ n, Hid ((askedL ps).length = n) := ⟨_, rfl⟩
  have hn60 : n ≤ 60 := by have h1 := asked_len ps; have h2 := HN.out; have h3 := HLEN.out; omega
  rw [HN.out] at hst hown ⊢
  have HS4 : Hid (Strs w4 a n g 0 (askedL ps)) := hst
  clear hown hb4 hst HB3
  go_wp2_with fail
  refine (cloneP_all ps a0 len cap b off (by omega) _ (HX.out.below HB4.out)).mono ?_
  rintro e w5 ⟨⟨mv, rfl, hclo⟩, hb5⟩
  have HB5 : Hid (Below w.heap.size w w5 ∧ Strs w5 a n g 0 (askedL ps) ∧ CloAns w5 ps len mv w4.heap.size ∧ w4.heap.size ≤ w5.heap.size) := ⟨HB4.out.trans (hb5.mono HB4.out.size), HS4.out.below hb5, hclo, hb5.size⟩
  have HSG : Hid (0 < n → g < w4.heap.size) := fun h => (HS4.out.lies h).2
  clear hclo hb5 HS4
  go_wp2_with fail
  refine (rev_any ps len (by omega) HLEN.out mv w4.heap.size _ HB5.out.2.2.1).mono ?_
  rintro e w6 ⟨rfl, HR⟩
  obtain ⟨⟨ma, mc, mb, rfl, hpar⟩, gg, hgg, hgr⟩ := HR.out
  have HK6 : Hid (KeepO w len ps a n c g mb ma mc w6) := by
    refine ⟨?_, hpar, HB5.out.1.grown hgr HB5.out.1.size (fun j hj => by injection hj with hj; rw [← hj]; exact Nat.le_trans HB4.out.size hgg)⟩
    have hs := HB5.out.2.1
    refine ⟨hs.len_eq, fun h => ⟨(hs.lies h).1, Nat.lt_of_lt_of_le (hs.lies h).2 hgr.size⟩, fun j x hx => ?_⟩
    have hjn : j < n := by rw [← HN.out]; exact (List.getElem?_eq_some_iff.1 hx).1
    have hg4 := HSG.out (by omega)
    exact (World.cell?_of_block (a := ⟨g, 0 + j, none⟩) (hgr.block g (hs.lies (by omega)).2 (fun e => by injection e with e; omega))).trans (hs.cells j x hx)
  clear HR hpar hgr hgg HB5 HSG HB4
  go_wp2
  go_loopw [5] (fun i wr => ∃ k : Nat, k ≤ n ∧ i = .int .i64 k ∧ Hid (KeepO w len ps a n c g mb ma mc wr)) (fun i _ => n - (intOf i).toNat)
  case atStart => exact ⟨0, Nat.zero_le _, rfl, HK6⟩
  case round =>
    obtain ⟨k, hk, rfl, HK⟩ := hrel
    by_cases hlt : k < n
    · have hltz : (k : Int) < (n : Int) := by omega
      obtain ⟨x, hx⟩ : ∃ x, (askT ps)[k]? = some x := ⟨(askT ps)[k]'(by have := HN.out; rw [askedL_is, List.length_map] at this; omega), List.getElem?_eq_getElem _⟩
      have hcell : ∀ j y, (askT ps)[j]? = some y → wr.cell? ⟨g, j, none⟩ = some (.string (bs y)) := fun j y hj => by
        have := HK.out.str.cells j (bs y) (by rw [askedL_is, List.getElem?_map, hj]; rfl)
        rw [Nat.zero_add] at this
        exact this
      obtain ⟨ha, _⟩ := HK.out.str.lies (by omega)
      have HXK : Hid ((askT ps)[k]? = some x) := hx
      have c1 := hcell k x hx
      obtain ⟨X, HXX⟩ : ∃ X, Hid (bs x = X) := ⟨_, rfl⟩
      rw [HXX.out] at c1
      have hlow : ∀ W, Calls Tryd.prog 25 #[.string X] W fun e w' => e = .returned (.string X) ∧ Below W.heap.size W w' := fun W => by
        have hsz : X.size ≤ 4000 := by rw [← HXX.out]; have := askT_size ps HSM.out x (List.mem_of_getElem? HXK.out); omega
        have h1 := lower_any X W hsz
        have h2 : bs (X.data.toList.map low) = X := by
          rw [← HXX.out, bs_data, askT_low ps x (List.mem_of_getElem? HXK.out)]
        rw [h2] at h1
        exact h1
      subst ha
      by_cases hk0 : k = 0
      · subst hk0
        have hSd : wr.drew.cell? ⟨g, 0, none⟩ = some (.string X) ∧ Hid (KeepO w len ps (some ⟨g, 0, none⟩) n c g mb ma mc wr.drew) := ⟨c1, HK.out.step (Below.refl _ _).drew⟩
        clear hcell hx
        go_upto_region 11 with fail
        refine wp_region_held_drew (S := fun W => W.cell? ⟨g, 0, none⟩ = some (.string X) ∧ Hid (KeepO w len ps (some ⟨g, 0, none⟩) n c g mb ma mc W)) (by kernel_rfl) hSd (fun hHeld => ?_)
        refine takeH (i := 0) (d := some 27) (v := ?_) rfl rfl (by kernel_rfl) (by kernel_rfl) (by kernel_rfl) (fun _ _ _ h => h) (by rfl) ?_ (by assumption) ?_
        rotate_left
        · intro w hSw; (try dsimp only at hSw); obtain ⟨q0, _⟩ := hSw; go_simp; with_reducible rfl
        try simp only [Act.put, List.setIfInBounds_toArray, List.set_cons_zero, List.set_cons_succ]
        refine takeH (i := 1) (d := some 28) (v := ?_) rfl rfl (by kernel_rfl) (by kernel_rfl) (by kernel_rfl) (fun _ _ _ h => h) (by rfl) ?_ (by assumption) ?_
        rotate_left
        · intro w hSw; (try dsimp only at hSw); obtain ⟨q0, _⟩ := hSw; go_simp; with_reducible rfl
        try simp only [Act.put, List.setIfInBounds_toArray, List.set_cons_zero, List.set_cons_succ]
        refine takeH (i := 2) (d := some 29) (v := ?_) rfl rfl (by kernel_rfl) (by kernel_rfl) (by kernel_rfl) (fun _ _ _ h => h) (by rfl) ?_ (by assumption) ?_
        rotate_left
        · intro w hSw; (try dsimp only at hSw); obtain ⟨q0, _⟩ := hSw; go_simp; with_reducible rfl
        try simp only [Act.put, List.setIfInBounds_toArray, List.set_cons_zero, List.set_cons_succ]
        refine takeH (i := 3) (d := some 30) (v := ?_) rfl rfl (by kernel_rfl) (by kernel_rfl) (by kernel_rfl) (fun _ _ _ h => h) (by rfl) ?_ (by assumption) ?_
        rotate_left
        · intro w hSw; (try dsimp only at hSw); obtain ⟨q0, _⟩ := hSw; go_simp; with_reducible rfl
        try simp only [Act.put, List.setIfInBounds_toArray, List.set_cons_zero, List.set_cons_succ]
        refine takeH (i := 5) (d := some 32) (v := ?_) rfl rfl (by kernel_rfl) (by kernel_rfl) (by kernel_rfl) (fun _ _ _ h => h) (by rfl) ?_ (by assumption) ?_
        rotate_left
        · intro w hSw; (try dsimp only at hSw); obtain ⟨q0, _⟩ := hSw; go_simp; with_reducible rfl
        try simp only [Act.put, List.setIfInBounds_toArray, List.set_cons_zero, List.set_cons_succ]
        refine takeH (i := 6) (d := some 33) (v := ?_) rfl rfl (by kernel_rfl) (by kernel_rfl) (by kernel_rfl) (fun _ _ _ h => h) (by rfl) ?_ (by assumption) ?_
        rotate_left
        · intro w hSw; (try dsimp only at hSw); obtain ⟨q0, _⟩ := hSw; go_simp; with_reducible rfl
        try simp only [Act.put, List.setIfInBounds_toArray, List.set_cons_zero, List.set_cons_succ]
        refine takeH (i := 7) (d := some 34) (v := ?_) rfl rfl (by kernel_rfl) (by kernel_rfl) (by kernel_rfl) (fun _ _ _ h => h) (by rfl) ?_ (by assumption) ?_
        rotate_left
        · intro w hSw; (try dsimp only at hSw); obtain ⟨q0, _⟩ := hSw; go_simp; with_reducible rfl
        try simp only [Act.put, List.setIfInBounds_toArray, List.set_cons_zero, List.set_cons_succ]
        refine takeH (i := 8) (d := some 35) (v := ?_) rfl rfl (by kernel_rfl) (by kernel_rfl) (by kernel_rfl) (fun _ _ _ h => h) (by rfl) ?_ (by assumption) ?_
        rotate_left
        · intro w hSw; (try dsimp only at hSw); obtain ⟨q0, _⟩ := hSw; go_simp; with_reducible rfl
        try simp only [Act.put, List.setIfInBounds_toArray, List.set_cons_zero, List.set_cons_succ]
        refine wpAnyH_ready (rs := [4]) (by kernel_rfl) (by simp) ?_
        refine AllReadyH.cons (by rfl) (fun K hKK => ?_) AllReadyH.nil
        go_simp
        refine (hlow _).mono ?_
        rintro e w9 ⟨rfl, hb9⟩
        have hS9 := SO8.step hSd hb9
        go_wp2_with fail
        refine hKK.out _ _ hS9 (fun hHeld9 => ?_)
        clear hKK K
        try simp only [Act.put, List.setIfInBounds_toArray, List.set_cons_zero, List.set_cons_succ]
        refine takeH (i := 9) (d := some 36) (v := ?_) rfl rfl (by kernel_rfl) (by kernel_rfl) (by kernel_rfl) (fun _ _ _ h => h) (by rfl) ?_ (by assumption) ?_
        rotate_left
        · intro w hSw; (try dsimp only at hSw); obtain ⟨q0, _⟩ := hSw; go_simp; with_reducible rfl
        try simp only [Act.put, List.setIfInBounds_toArray, List.set_cons_zero, List.set_cons_succ]
        refine takeH (i := 10) (d := some 37) (v := ?_) rfl rfl (by kernel_rfl) (by kernel_rfl) (by kernel_rfl) (fun _ _ _ h => h) (by rfl) ?_ (by assumption) ?_
        rotate_left
        · intro w hSw; (try dsimp only at hSw); obtain ⟨q0, _⟩ := hSw; go_simp; with_reducible rfl
        try simp only [Act.put, List.setIfInBounds_toArray, List.set_cons_zero, List.set_cons_succ]
        refine takeH (i := 11) (d := some 38) (v := ?_) rfl rfl (by kernel_rfl) (by kernel_rfl) (by kernel_rfl) (fun _ _ _ h => h) (by rfl) ?_ (by assumption) ?_
        rotate_left
        · intro w hSw; (try dsimp only at hSw); obtain ⟨q0, _⟩ := hSw; go_simp; with_reducible rfl
        try simp only [Act.put, List.setIfInBounds_toArray, List.set_cons_zero, List.set_cons_succ]
        refine takeH (i := 12) (d := some 39) (v := ?_) rfl rfl (by kernel_rfl) (by kernel_rfl) (by kernel_rfl) (fun _ _ _ h => h) (by rfl) ?_ (by assumption) ?_
        rotate_left
        · intro w hSw; (try dsimp only at hSw); obtain ⟨q0, _⟩ := hSw; go_simp; with_reducible rfl
        try simp only [Act.put, List.setIfInBounds_toArray, List.set_cons_zero, List.set_cons_succ]
        refine takeH (i := 13) (d := some 40) (v := ?_) rfl rfl (by kernel_rfl) (by kernel_rfl) (by kernel_rfl) (fun _ _ _ h => h) (by rfl) ?_ (by assumption) ?_
        rotate_left
        · intro w hSw; (try dsimp only at hSw); obtain ⟨q0, _⟩ := hSw; go_simp; with_reducible rfl
        try simp only [Act.put, List.setIfInBounds_toArray, List.set_cons_zero, List.set_cons_succ]
        refine skipH (i := 14) (d := some 41) rfl rfl (by kernel_rfl) (by kernel_rfl) (by kernel_rfl) (fun _ _ _ h => h) (by rfl) (by assumption) ?_
        try simp only [Act.put, List.setIfInBounds_toArray, List.set_cons_zero, List.set_cons_succ]
        refine skipH (i := 15) (d := some 42) rfl rfl (by kernel_rfl) (by kernel_rfl) (by kernel_rfl) (fun _ _ _ h => h) (by rfl) (by assumption) ?_
        try simp only [Act.put, List.setIfInBounds_toArray, List.set_cons_zero, List.set_cons_succ]
        refine skipH (i := 16) (d := some 43) rfl rfl (by kernel_rfl) (by kernel_rfl) (by kernel_rfl) (fun _ _ _ h => h) (by rfl) (by assumption) ?_
        try simp only [Act.put, List.setIfInBounds_toArray, List.set_cons_zero, List.set_cons_succ]
        refine skipH (i := 17) (d := some 44) rfl rfl (by kernel_rfl) (by kernel_rfl) (by kernel_rfl) (fun _ _ _ h => h) (by rfl) (by assumption) ?_
        try simp only [Act.put, List.setIfInBounds_toArray, List.set_cons_zero, List.set_cons_succ]
        refine skipH (i := 18) (d := some 45) rfl rfl (by kernel_rfl) (by kernel_rfl) (by kernel_rfl) (fun _ _ _ h => h) (by rfl) (by assumption) ?_
        try simp only [Act.put, List.setIfInBounds_toArray, List.set_cons_zero, List.set_cons_succ]
        refine skipH (i := 19) (d := some 46) rfl rfl (by kernel_rfl) (by kernel_rfl) (by kernel_rfl) (fun _ _ _ h => h) (by rfl) (by assumption) ?_
        try simp only [Act.put, List.setIfInBounds_toArray, List.set_cons_zero, List.set_cons_succ]
        refine skipH (i := 20) (d := some 47) rfl rfl (by kernel_rfl) (by kernel_rfl) (by kernel_rfl) (fun _ _ _ h => h) (by rfl) (by assumption) ?_
        try simp only [Act.put, List.setIfInBounds_toArray, List.set_cons_zero, List.set_cons_succ]
        refine skipH (i := 21) (d := some 48) rfl rfl (by kernel_rfl) (by kernel_rfl) (by kernel_rfl) (fun _ _ _ h => h) (by rfl) (by assumption) ?_
        try simp only [Act.put, List.setIfInBounds_toArray, List.set_cons_zero, List.set_cons_succ]
        refine skipH (i := 22) (d := some 49) rfl rfl (by kernel_rfl) (by kernel_rfl) (by kernel_rfl) (fun _ _ _ h => h) (by rfl) (by assumption) ?_
        try simp only [Act.put, List.setIfInBounds_toArray, List.set_cons_zero, List.set_cons_succ]
        refine skipH (i := 23) (d := some 50) rfl rfl (by kernel_rfl) (by kernel_rfl) (by kernel_rfl) (fun _ _ _ h => h) (by rfl) (by assumption) ?_
        try simp only [Act.put, List.setIfInBounds_toArray, List.set_cons_zero, List.set_cons_succ]
        refine takeH (i := 24) (d := some 51) (v := ?_) rfl rfl (by kernel_rfl) (by kernel_rfl) (by kernel_rfl) (fun _ _ _ h => h) (by rfl) ?_ (by assumption) ?_
        rotate_left
        · intro w hSw; (try dsimp only at hSw); obtain ⟨q0, _⟩ := hSw; go_simp; with_reducible rfl
        try simp only [Act.put, List.setIfInBounds_toArray, List.set_cons_zero, List.set_cons_succ]
        refine takeH (i := 25) (d := some 52) (v := ?_) rfl rfl (by kernel_rfl) (by kernel_rfl) (by kernel_rfl) (fun _ _ _ h => h) (by rfl) ?_ (by assumption) ?_
        rotate_left
        · intro w hSw; (try dsimp only at hSw); obtain ⟨q0, _⟩ := hSw; go_simp; with_reducible rfl
        try simp only [Act.put, List.setIfInBounds_toArray, List.set_cons_zero, List.set_cons_succ]
        refine wpAnyH_done (by kernel_rfl) ?_ _
        go_wp2
        go_roundw
        case rel => exact ⟨0 + 1, by omega, by go_num, hS9.2⟩
        case measure => simp [intOf]; omega
      · obtain ⟨j, hkj⟩ : ∃ j, k = j + 1 := ⟨k - 1, by omega⟩
        have HKJ : Hid (k = j + 1) := hkj
        obtain ⟨y, hy⟩ : ∃ y, (askT ps)[j]? = some y := ⟨(askT ps)[j]'(by have := HN.out; rw [askedL_is, List.length_map] at this; omega), List.getElem?_eq_getElem _⟩
        have c2 := hcell j y hy
        obtain ⟨Y, HYY⟩ : ∃ Y, Hid (bs y = Y) := ⟨_, rfl⟩
        rw [HYY.out] at c2
        have HLE : Hid ((Op.bytesLess X.toList Y.toList || X.toList == Y.toList) = false) := by
          show _ = _
          rw [← HXX.out, ← HYY.out, ByteArray.toList_eq, ByteArray.toList_eq, bs_data, bs_data]
          exact not_leq y x (askT_next ps j y x hy (by rw [← HKJ.out]; exact HXK.out))
        have hSd : wr.drew.cell? ⟨g, k, none⟩ = some (.string X) ∧ wr.drew.cell? ⟨g, j, none⟩ = some (.string Y) ∧ Hid (KeepO w len ps (some ⟨g, 0, none⟩) n c g mb ma mc wr.drew) := ⟨c1, c2, HK.out.step (Below.refl _ _).drew⟩
        have hw1 : IntKind.i64.wrap ((k : Int) - 1) = (j : Int) := by rw [show (k : Int) - 1 = (j : Int) by omega]; exact IntWalk.i64_in _ ⟨by omega, by omega⟩
        have hj0 : (0 : Int) ≤ (j : Int) := by omega
        have hjn : (j : Int) < (n : Int) := by omega
        have hkz : (0 : Int) ≤ (k : Int) := by omega
        have hd0 : decide ((0 : Int) < (k : Int)) = true := decide_eq_true (by omega)
        have hbin := leq_no X Y HLE.out
        have hd1 : decide (0 < k) = true := decide_eq_true (by omega)
        have hkp : 0 < k := by omega
        clear hkj hk0
        clear hcell hx hy
        go_upto_region 11 with fail
        go_region_held3 (fun W => W.cell? ⟨g, k, none⟩ = some (.string X) ∧ W.cell? ⟨g, j, none⟩ = some (.string Y) ∧ Hid (KeepO w len ps (some ⟨g, 0, none⟩) n c g mb ma mc W)) (first | assumption | exact hSd) (
          (go_at_call 25; refine (hlow _).mono ?_; rintro e w9 ⟨rfl, hb9⟩; have hS9 := SO9.step (by assumption) hb9))
        clear hlow c1 c2 hbin
        go_wp2
        go_roundw
        case rel => exact ⟨k + 1, by omega, by go_num, hS9.2.2⟩
        case measure => simp [intOf]; omega
    · have hltz : ¬ (k : Int) < (n : Int) := by omega
      have hpr : Small8 ps.reverse := fun p hp => HSM.out p (List.mem_reverse.1 hp)
      go_wp2_with fail
      refine (asked8_any ps.reverse hpr ma len mc mb 0 hlen _ HK.out.par).mono ?_
      rintro e w7 ⟨⟨u, rfl, hown⟩, hb7⟩
      rw [askedL_rev] at hown
      obtain ⟨a2, c2, g2, rfl, hst⟩ := hown.strs
      rw [HN.out] at hst ⊢
      have HK7 : Hid (KeepO w len ps a n c g mb ma mc w7 ∧ Strs w7 a2 n g2 0 (askedL ps)) := ⟨HK.out.step hb7, hst⟩
      clear hown hb7 hst
      go_wp2_with fail
      refine (equal_same a2 a n c2 g2 0 c g 0 (askedL ps) _ (by omega) HK7.out.2 HK7.out.1.str).mono ?_
      rintro e w8 ⟨rfl, q, rfl⟩
      go_wp2
      go_ret
      exact ⟨rfl, HK7.out.1.bel.trans ⟨rfl, rfl, rfl, Nat.le_refl _, fun _ _ => rfl⟩⟩
end Go.Proofs.YtbhnaekkjpcafaaDoor
