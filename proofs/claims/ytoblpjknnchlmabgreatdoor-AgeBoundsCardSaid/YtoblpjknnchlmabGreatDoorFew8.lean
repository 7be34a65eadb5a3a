/- Whether headers are few, by the law's own words: the library's functions over a row of parameters that lies somewhere. -/
import Derived.Test.YtoblpjknnchlmabGreatDoorOvr8
import Derived.Test.YtoblpjknnchlmabGreatDoorEnt
import Derived.Test.YtoblpjknnchlmabGreatDoorBxa
import Derived.Test.YtoblpjknnchlmabGreatDoorAkD
import Derived.Deep.LoopGhost
import Derived.Deep.QuietTactic
import Derived.BigQuiet
namespace Go.Proofs.YtoblpjknnchlmabGreatDoor
open Go.RowKit

/-- A function that says whether a parameter is of a kind, at these. -/
structure KindP (K : Nat) (f : Par → Bool) (ps : List Par) : Prop where
  says : ∀ p ∈ ps, ∀ w : World, Calls Tryz.prog K #[.agg #[.string p.1, .string p.2]] w fun e w' => e = .returned (.bool (f p)) ∧ Below w.heap.size w w'
  enters : ∀ (args : Array Value) (w : World), (callFunc K args).run Tryz.prog w = .ok (.enter K args) w
set_option maxRecDepth 100000 in
set_option maxHeartbeats 2000000 in
theorem indexP8_any (K : Nat) (f : Par → Bool) (ps : List Par) (hK : KindP K f ps) (a0 : Option Addr) (len cap b off : Nat) (hlen : len ≤ 1000000) (w : World) (hx : Pars w a0 len b off ps) :
    Calls Tryz.prog 68 #[.slice a0 len cap, .func (.func K) #[] #[]] w fun e w' => (∃ r : Int, e = .returned (.int .i64 r) ∧ Hid (decide (0 ≤ r) = ps.any f)) ∧ Below w.heap.size w w' := by
  have HX : Hid (Pars w a0 len b off ps) := hx
  have hl := hx.len_eq
  have HK0 : Hid (KindP K f ps) := hK
  have hen := hK.enters
  clear hK hx
  go_enter Tryz.func68, Tryz.ntmps68
  go_wp2
  go_loopw [8] (fun i wr => ∃ (k : Nat), k ≤ len ∧ i = .int .i64 k ∧ Hid ((ps.take k).any f = false) ∧ Hid (Below w.heap.size w wr)) (fun i _ => len - (intOf i).toNat)
  case atStart => exact ⟨0, Nat.zero_le _, rfl, rfl, Below.refl _ _⟩
  case round =>
    obtain ⟨k, hk, rfl, HK, HB⟩ := hrel
    by_cases hlt : k < len
    · have hltz : (k : Int) < (len : Int) := by omega
      obtain ⟨p, hp⟩ : ∃ p, ps[k]? = some p := ⟨ps[k]'(by omega), List.getElem?_eq_getElem (by omega)⟩
      obtain ⟨pn, pv⟩ := p
      have HPK : Hid (ps[k]? = some (pn, pv)) := hp
      have HM : Hid ((pn, pv) ∈ ps) := List.mem_of_getElem? hp
      obtain ⟨ha0, _⟩ := HX.out.lies (by omega)
      subst ha0
      have hXr := HX.out.below HB.out
      have c1 : wr.cell? ⟨b, off + k * 2, none⟩ = some (.string pn) := hXr.one k _ hp
      have c2 : wr.cell? ⟨b, off + k * 2 + 1, none⟩ = some (.string pv) := hXr.two k _ hp
      have hsay := HK0.out.says _ HM.out
      clear hp hXr
      cases hf : f (pn, pv)
      · have HS : Hid ((ps.take (k + 1)).any f = false) := by
          show _ = _
          obtain ⟨hk1, e⟩ := List.getElem?_eq_some_iff.1 HPK.out
          rw [List.take_succ_eq_append_getElem hk1, List.any_append, HK.out, e]
          simp [hf]
        go_wp2_with fail
        refine (hsay _).mono ?_
        rintro e w' ⟨rfl, hb'⟩
        rw [hf]
        have HB2 : Hid (Below w.heap.size w w') := HB.out.trans (hb'.mono HB.out.size)
        clear hb'
        go_wp2
        go_roundw
        case rel => exact ⟨k + 1, by omega, by go_num, HS, HB2⟩
        case measure => simp [intOf]; omega
      · have HS : Hid (ps.any f = true) := List.any_eq_true.2 ⟨_, HM.out, hf⟩
        go_wp2_with fail
        refine (hsay _).mono ?_
        rintro e w' ⟨rfl, hb'⟩
        rw [hf]
        have HB2 : Hid (Below w.heap.size w w') := HB.out.trans (hb'.mono HB.out.size)
        clear hb'
        go_wp2
        go_ret
        exact ⟨⟨_, rfl, by show _ = _; rw [HS.out]; exact decide_eq_true (Int.natCast_nonneg _)⟩, HB2.out⟩
    · have hltz : ¬ (k : Int) < (len : Int) := by omega
      have HS : Hid (ps.any f = false) := by
        have := HK.out
        rw [List.take_of_length_le (by omega)] at this
        exact this
      go_wp2
      go_ret
      exact ⟨⟨_, rfl, by show _ = _; rw [HS.out]; rfl⟩, HB.out⟩
theorem overF_any (p : Par) (h1 : p.1.size ≤ 140737488355328) (h2 : p.2.size ≤ 140737488355328) (w : World) :
    Calls Tryz.prog 38 #[.agg #[.string p.1, .string p.2]] w fun e w' => e = .returned (.bool (overP p)) ∧ Below w.heap.size w w' := by
  obtain ⟨x, y⟩ := p
  simp only at h1 h2 ⊢
  have HO : Hid (overP (x, y) = decide ((300 : Int) < (x.size : Int) + (y.size : Int))) := by
    show _ = _
    unfold overP
    simp only [← Int.ofNat_lt]
    rfl
  go_enter Tryz.func38, Tryz.ntmps38
  go_wp2
  go_ret
  exact ⟨ret_bool HO.out.symm, (Below.refl _ _).alloc (Nat.le_refl _) _⟩
/-- Few headers, and small ones. -/
def fewL (ps : List Par) : Bool := decide (ps.length ≤ 40) && !ps.any overP
set_option maxHeartbeats 1000000 in
theorem few_any (ps : List Par) (hz : ∀ p ∈ ps, p.1.size ≤ 140737488355328 ∧ p.2.size ≤ 140737488355328) (a0 : Option Addr) (len cap b off : Nat) (hlb : len ≤ 9223372036854775807) (w : World) (hx : Pars w a0 len b off ps) :
    Calls Tryz.prog 18 #[.slice a0 len cap] w fun e w' => e = .returned (.bool (fewL ps)) ∧ Below w.heap.size w w' := by
  have hl := hx.len_eq
  by_cases h : len ≤ 40
  · have h' : (len : Int) ≤ 40 := by omega
    have hK : KindP 38 overP ps := ⟨fun p hp w => overF_any p (hz p hp).1 (hz p hp).2 w, enters_at Tryz.func38 (by kernel_rfl) rfl⟩
    have hcon : ∀ w', Pars w' a0 len b off ps → Calls Tryz.prog 37 #[.slice a0 len cap, .func (.func 38) #[] #[]] w' fun e w'' => e = .returned (.bool (ps.any overP)) ∧ Below w'.heap.size w' w'' := fun w' hx' => by
      go_enter Tryz.func37, Tryz.ntmps37
      go_wp2_with (go_at_call 68; refine (indexP8_any _ overP ps hK a0 len cap b off (by omega) _ hx').mono ?_; rintro e w'' ⟨⟨r, rfl, HR⟩, hb⟩)
      go_ret
      exact ⟨ret_bool HR.out, hb⟩
    obtain ⟨q, HQ⟩ : ∃ q, Hid (ps.any overP = q) := ⟨_, rfl⟩
    rw [HQ.out] at hcon
    have HF : Hid (fewL ps = !q) := by
      show _ = _
      unfold fewL
      rw [decide_eq_true (by omega), HQ.out, Bool.true_and]
    clear hK hz
    go_enter Tryz.func18, Tryz.ntmps18
    go_wp2_with fail
    refine (hcon _ hx).mono ?_
    rintro e w1 ⟨rfl, hb1⟩
    go_wp2
    go_ret
    exact ⟨ret_bool HF.out.symm, hb1⟩
  · have h' : ¬ (len : Int) ≤ 40 := by omega
    have HF : Hid (fewL ps = false) := by
      show _ = _
      unfold fewL
      rw [decide_eq_false (by omega), Bool.false_and]
    go_enter Tryz.func18, Tryz.ntmps18
    go_wp2
    go_ret
    exact ⟨ret_bool HF.out.symm, Below.refl _ _⟩
theorem fewL_small {ps : List Par} (h : fewL ps = true) : ps.length ≤ 40 ∧ ∀ p ∈ ps, p.1.size + p.2.size ≤ 300 := by
  unfold fewL at h
  rw [Bool.and_eq_true] at h
  refine ⟨of_decide_eq_true h.1, fun p hp => ?_⟩
  have h2 : ps.any overP = false := by simpa using h.2
  have h3 := List.any_eq_false.1 h2 p hp
  unfold overP at h3
  simpa using h3
end Go.Proofs.YtoblpjknnchlmabGreatDoor
