/- Challenges that can be told so, as the laws draw them. -/
import Derived.Test.YtooaiamfbmjmnaaGreatDoorAkR
import Derived.Test.YtooaiamfbmjmnaaGreatDoorPrm
import Derived.Test.YtooaiamfbmjmnaaGreatDoorRdt
import Derived.Test.YtooaiamfbmjmnaaGreatDoorChlA
import Derived.Test.YtooaiamfbmjmnaaGreatDoorTkB
namespace Go.Proofs.YtooaiamfbmjmnaaGreatDoor
open Go.RowKit Go.Shelf

theorem same_comm (a b : List UInt8) : sameL a b = sameL b a := by unfold sameL; exact Bool.beq_comm
theorem unlike_snoc : ∀ (l acc : List Par) (p : Par), Unlike acc l → toldL (acc ++ l) p.1 = false → Unlike acc (l ++ [p])
  | [], acc, p, _, h => ⟨by rw [List.append_nil] at h; exact h, trivial⟩
  | q :: r, acc, p, hu, h => ⟨hu.1, unlike_snoc r (acc ++ [q]) p hu.2 (by rw [List.append_assoc]; exact h)⟩
/-- The first j parameters are few bytes, of words unlike. -/
def InK (ps : List Par) (j : Nat) : Prop := (∀ p ∈ ps.take j, p.1.size + p.2.size ≤ 100 ∧ isL p.1.data.toList = true) ∧ Unlike [] (ps.take j)
theorem inK_step {ps : List Par} {j : Nat} {p : Par} (h : InK ps j) (hp : ps[j]? = some p) (hs : p.1.size + p.2.size ≤ 100) (hi : isL p.1.data.toList = true) (ht : toldL (ps.take j) p.1 = false) : InK ps (j + 1) := by
  obtain ⟨hj, e⟩ := List.getElem?_eq_some_iff.1 hp
  have et : ps.take (j + 1) = ps.take j ++ [p] := by rw [List.take_succ_eq_append_getElem hj, e]
  unfold InK
  rw [et]
  refine ⟨fun q hq => ?_, unlike_snoc _ _ _ h.2 ht⟩
  rcases List.mem_append.1 hq with h1 | h1
  · exact h.1 q h1
  · rw [List.mem_singleton.1 h1]; exact ⟨hs, hi⟩
/-- A challenge that is fair. -/
def FairC (x : Chal) : Prop := x.scheme.size + x.token.size ≤ 60 ∧ x.params.length ≤ 16 ∧ Good x ∧ ∀ p ∈ x.params, p.1.size + p.2.size ≤ 100
theorem trim_nil (l : List UInt8) (h : Lib.trimS l tkset.data.toList = []) : l.all tkB = true := by
  unfold Lib.trimS at h
  rw [trim_tk] at h
  have h1 : (Lib.trimRightS l tkset.data.toList).all tkB = true := (dw_nil _ _).1 h
  unfold Lib.trimRightS at h1
  have e : (fun c => tkset.data.toList.contains c) = tkB := funext tk_all
  rw [e, List.all_reverse] at h1
  have h2 : l.reverse.dropWhile tkB = [] := by
    cases hd : l.reverse.dropWhile tkB with
    | nil => rfl
    | cons c t =>
      rw [hd, List.all_cons, Bool.and_eq_true] at h1
      have := List.head?_dropWhile_not tkB l.reverse
      rw [hd] at this
      simp [h1.1] at this
  have h3 := (dw_nil _ _).1 h2
  rw [List.all_reverse] at h3
  exact h3
theorem fair_of {x : Chal} (h1 : x.scheme.size + x.token.size ≤ 60) (h2 : x.params.length ≤ 16) (h3 : isL x.scheme.data.toList = true) (h4 : x.token.size = 0 ∨ x.params = [] ∧ x.token.data.toList.all tkB = true) (h5 : InK x.params x.params.length) : FairC x := by
  unfold InK at h5
  rw [List.take_length] at h5
  refine ⟨h1, h2, ⟨h3, ?_, fun q hq => (h5.1 q hq).2, h5.2, h2⟩, fun p hp => (h5.1 p hp).1⟩
  by_cases h0 : x.token.size = 0
  · exact .inl h0
  · rcases h4 with h | h
    · exact absurd h h0
    · refine .inr ⟨⟨x.token.data.toList, [], by simp, fun e => h0 ?_, h.2, rfl⟩, h.1⟩
      rw [← len_data, e]
      rfl
theorem trimAll_any (p : ByteArray) (hp : p.size ≤ 5000) (w : World) :
    Calls Tryz.prog 28 #[.string p, .string tkset] w fun e w' => ∃ t : ByteArray, e = .returned (.string t) ∧ Hid (t.size = 0 → p.data.toList.all tkB = true) ∧ Below w.heap.size w w' := by
  refine (Any.strings_Trim_laid lays160 (by kernel_rfl) p tkset w (by omega) (by decide) (ascii_of_all (by decide +kernel))).mono ?_
  rintro e w' ⟨rfl, hb⟩
  refine ⟨_, rfl, fun h => trim_nil _ ?_, hb⟩
  exact List.eq_nil_of_length_eq_zero h
theorem any_find {f : Par → Bool} {ps : List Par} : ps.any f = (ps.find? f).isSome := by
  induction ps with
  | nil => rfl
  | cons p r ih =>
    rw [List.any_cons, List.find?_cons]
    cases f p
    · rw [Bool.false_or, ih]
    · rfl
set_option maxHeartbeats 1000000 in
theorem containsP_any (K : Nat) (c : Value) (f : Par → Bool) (ps : List Par) (a0 : Option Addr) (len cap b off : Nat) (hlen : len ≤ 1000000) (w : World) (hx : Pars w a0 len b off ps)
    (says : ∀ w', Below w.heap.size w w' → ∀ p ∈ ps, Calls Tryz.prog K #[.agg #[.string p.1, .string p.2], c] w' fun e w'' => e = .returned (.bool (f p)) ∧ Below w'.heap.size w' w'')
    (hen : ∀ (args : Array Value) (w : World), (callFunc K args).run Tryz.prog w = .ok (.enter K args) w) :
    Calls Tryz.prog 29 #[.slice a0 len cap, .func (.func K) #[] #[c]] w fun e w' => e = .returned (.bool (ps.any f)) ∧ Below w.heap.size w w' := by
  go_enter Tryz.func29, Tryz.ntmps29
  go_wp2_with fail
  refine (indexP_any K c f ps a0 len cap b off hlen _ hx says hen).mono ?_
  rintro e w' ⟨⟨r, rfl, hr⟩, hb⟩
  rcases hr.out with ⟨rfl, h⟩ | ⟨k, p, rfl, _, h⟩
  · have HA : Hid (ps.any f = false) := by show _ = _; rw [any_find, h]; rfl
    clear hr h
    go_wp2
    go_ret
    exact ⟨by rw [HA.out]; rfl, hb⟩
  · have HA : Hid (ps.any f = true) := by show _ = _; rw [any_find, h]; rfl
    have h0 : (0 : Int) ≤ (k : Int) := by omega
    clear hr h
    go_wp2
    go_ret
    exact ⟨by rw [HA.out]; first | rfl | simp [h0], hb⟩
set_option maxHeartbeats 1000000 in
theorem fairOne_any (q : Par) (n : ByteArray) (hq : q.1.size ≤ 4000) (hn : n.size ≤ 4000) (c : Nat) (w : World) (hc : w.cell? ⟨c, 0, none⟩ = some (.string n)) :
    Calls Tryz.prog 30 #[.agg #[.string q.1, .string q.2], .pointer (some ⟨c, 0, none⟩)] w fun e w' => e = .returned (.bool (sameL n.data.toList q.1.data.toList)) ∧ Below w.heap.size w w' := by
  have hcl : c < w.heap.size := by
    rcases Nat.lt_or_ge c w.heap.size with h1 | h1
    · exact h1
    · simp [World.cell?, Array.getElem?_eq_none h1] at hc
  go_enter Tryz.func30, Tryz.ntmps30
  go_wp2_with fail
  refine (same_any _ _ hn hq _).mono ?_
  rintro e w2 ⟨rfl, hb2⟩
  go_wp2
  go_ret
  exact ⟨rfl, ((Below.refl _ _).alloc (Nat.le_refl _) _).trans (hb2.mono (by simp))⟩
end Go.Proofs.YtooaiamfbmjmnaaGreatDoor
