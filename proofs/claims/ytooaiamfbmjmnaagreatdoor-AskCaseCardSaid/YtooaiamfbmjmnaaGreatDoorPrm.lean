/- The first parameter of a kind, by the library's own function. -/
import Derived.Test.YtooaiamfbmjmnaaGreatDoorAk
import Derived.Test.YtooaiamfbmjmnaaGreatDoorPrmA
import Derived.Deep.Draws
import Derived.Deep.LoopGhost
namespace Go.Proofs.YtooaiamfbmjmnaaGreatDoor
open Go.RowKit

theorem find_take {f : Par → Bool} {ps : List Par} {k : Nat} {p : Par} (h : (ps.take k).find? f = none) (hk : ps[k]? = some p) : (f p = false → (ps.take (k + 1)).find? f = none) ∧ (f p = true → ps.find? f = some p) := by
  obtain ⟨hk1, e⟩ := List.getElem?_eq_some_iff.1 hk
  refine ⟨fun hf => ?_, fun hf => ?_⟩
  · rw [List.take_succ_eq_append_getElem hk1, List.find?_append, h, e]
    simp [hf]
  · have e2 : ps = ps.take k ++ p :: ps.drop (k + 1) := by rw [← e, ← List.drop_eq_getElem_cons hk1, List.take_append_drop]
    rw [e2, List.find?_append, h]
    simp [hf]
set_option maxRecDepth 100000 in
set_option maxHeartbeats 2000000 in
theorem indexP_any (K : Nat) (c : Value) (f : Par → Bool) (ps : List Par) (a0 : Option Addr) (len cap b off : Nat) (hlen : len ≤ 1000000) (w : World) (hx : Pars w a0 len b off ps)
    (says : ∀ w', Below w.heap.size w w' → ∀ p ∈ ps, Calls Tryz.prog K #[.agg #[.string p.1, .string p.2], c] w' fun e w'' => e = .returned (.bool (f p)) ∧ Below w'.heap.size w' w'')
    (hen : ∀ (args : Array Value) (w : World), (callFunc K args).run Tryz.prog w = .ok (.enter K args) w) :
    Calls Tryz.prog 67 #[.slice a0 len cap, .func (.func K) #[] #[c]] w fun e w' => (∃ r : Int, e = .returned (.int .i64 r) ∧ Hid (r = -1 ∧ ps.find? f = none ∨ ∃ (k : Nat) (p : Par), r = k ∧ ps[k]? = some p ∧ ps.find? f = some p)) ∧ Below w.heap.size w w' := by
  have HX : Hid (Pars w a0 len b off ps) := hx
  have hl := hx.len_eq
  clear hx
  go_enter Tryz.func67, Tryz.ntmps67
  go_wp2
  go_loopw [8] (fun i wr => ∃ (k : Nat), k ≤ len ∧ i = .int .i64 k ∧ Hid ((ps.take k).find? f = none) ∧ Below w.heap.size w wr) (fun i _ => len - (intOf i).toNat)
  case atStart => exact ⟨0, Nat.zero_le _, rfl, rfl, Below.refl _ _⟩
  case round =>
    obtain ⟨k, hk, rfl, HK, hb⟩ := hrel
    by_cases hlt : k < len
    · obtain ⟨p, hpk⟩ : ∃ p, ps[k]? = some p := ⟨ps[k]'(by omega), List.getElem?_eq_getElem (by omega)⟩
      have HP : Hid (ps[k]? = some p) := hpk
      have hs := says wr hb p (List.mem_of_getElem? hpk)
      obtain ⟨ha0, hbl⟩ := HX.out.lies (by omega)
      subst ha0
      have hc1 : wr.cell? ⟨b, off + k * 2, none⟩ = some (.string p.1) := (hb.cell (p := ⟨b, off + k * 2, none⟩) hbl).trans (HX.out.one k p hpk)
      have hc2 : wr.cell? ⟨b, off + k * 2 + 1, none⟩ = some (.string p.2) := (hb.cell (p := ⟨b, off + k * 2 + 1, none⟩) hbl).trans (HX.out.two k p hpk)
      clear hpk
      obtain ⟨hF, hT⟩ := find_take HK.out HP.out
      have hbs : w.heap.size ≤ wr.heap.size := hb.size
      cases hf : f p
      · have HS : Hid ((ps.take (k + 1)).find? f = none) := hF hf
        clear hF hT
        go_wp2_with fail
        refine hs.mono ?_
        rintro e w2 ⟨rfl, hb2⟩
        rw [hf]
        go_wp2
        go_roundw
        case rel => exact ⟨k + 1, by omega, by go_num, HS, hb.trans (hb2.mono hbs)⟩
        case measure => simp [intOf]; omega
      · have HS : Hid (ps.find? f = some p) := hT hf
        clear hF hT
        go_wp2_with fail
        refine hs.mono ?_
        rintro e w2 ⟨rfl, hb2⟩
        rw [hf]
        go_wp2
        go_ret
        exact ⟨⟨_, rfl, .inr ⟨k, p, rfl, HP, HS⟩⟩, hb.trans (hb2.mono hbs)⟩
    · have HS : Hid (ps.find? f = none) := by
        have := HK.out
        rw [List.take_of_length_le (by omega)] at this
        exact this
      go_wp2
      go_ret
      exact ⟨⟨_, rfl, .inl ⟨rfl, HS⟩⟩, hb⟩
set_option maxHeartbeats 1000000 in
theorem findOne_any (p : Par) (n : ByteArray) (hp : p.1.size ≤ 4000) (hn : n.size ≤ 4000) (c : Nat) (w : World) (hc : w.cell? ⟨c, 0, none⟩ = some (.string n)) :
    Calls Tryz.prog 102 #[.agg #[.string p.1, .string p.2], .pointer (some ⟨c, 0, none⟩)] w fun e w' => e = .returned (.bool (sameL p.1.data.toList n.data.toList)) ∧ Below w.heap.size w w' := by
  have hcl : c < w.heap.size := by
    rcases Nat.lt_or_ge c w.heap.size with h1 | h1
    · exact h1
    · simp [World.cell?, Array.getElem?_eq_none h1] at hc
  go_enter Tryz.func102, Tryz.ntmps102
  go_wp2_with fail
  refine (same_any _ _ hp hn _).mono ?_
  rintro e w2 ⟨rfl, hb2⟩
  go_wp2
  go_ret
  exact ⟨rfl, ((Below.refl _ _).alloc (Nat.le_refl _) _).trans (hb2.mono (by simp))⟩
set_option maxHeartbeats 1000000 in
theorem find_any (ps : List Par) (n : ByteArray) (hps : ∀ p ∈ ps, p.1.size ≤ 4000) (hn : n.size ≤ 4000) (a0 : Option Addr) (len cap b off : Nat) (hlen : len ≤ 1000000) (w : World) (hx : Pars w a0 len b off ps) :
    Calls Tryz.prog 68 #[.slice a0 len cap, .string n] w fun e w' => (∃ r : Int, e = .returned (.int .i64 r) ∧ Hid (r = -1 ∧ ps.find? (fun p => sameL p.1.data.toList n.data.toList) = none ∨ ∃ (k : Nat) (p : Par), r = k ∧ ps[k]? = some p ∧ ps.find? (fun p => sameL p.1.data.toList n.data.toList) = some p)) ∧ Below w.heap.size w w' := by
  have hb1 : Below w.heap.size w (w.alloc (.cells #[.string n] 9)) := (Below.refl _ _).alloc (Nat.le_refl _) _
  have HX : Hid (Pars (w.alloc (.cells #[.string n] 9)) a0 len b off ps) := hx.below hb1
  have hcell : (w.alloc (.cells #[.string n] 9)).cell? ⟨w.heap.size, 0, none⟩ = some (.string n) := World.cell?_alloc_mark _ _ _ _ _
  have HS : Hid (∀ w', Below (w.alloc (.cells #[.string n] 9)).heap.size (w.alloc (.cells #[.string n] 9)) w' → ∀ p ∈ ps, Calls Tryz.prog 102 #[.agg #[.string p.1, .string p.2], .pointer (some ⟨w.heap.size, 0, none⟩)] w' fun e w'' => e = .returned (.bool (sameL p.1.data.toList n.data.toList)) ∧ Below w'.heap.size w' w'') := by
    intro w' hb p hp
    refine findOne_any p n (hps p hp) hn _ w' ?_
    rw [hb.cell (p := ⟨w.heap.size, 0, none⟩) (by simp)]
    exact hcell
  clear hx hcell
  go_enter Tryz.func68, Tryz.ntmps68
  go_wp2_with fail
  refine (indexP_any _ _ _ ps a0 len cap b off hlen _ HX.out HS.out (enters_at Tryz.func102 (by kernel_rfl) rfl)).mono ?_
  rintro e w2 ⟨⟨r, rfl, HR⟩, hb2⟩
  go_wp2
  go_ret
  exact ⟨⟨r, rfl, HR⟩, hb1.trans (hb2.mono (by simp))⟩
end Go.Proofs.YtooaiamfbmjmnaaGreatDoor
