/- Whether challenges are too many, or too long, to be held. -/
import Derived.Test.YteldgpkkgnfiaaaDoorChlA
namespace Go.Proofs.YteldgpkkgnfiaaaDoor
open Go.RowKit

def parW : List Par → Nat
  | [] => 0
  | p :: r => p.1.size + p.2.size + parW r
theorem parW_app (a b : List Par) : parW (a ++ b) = parW a + parW b := by
  induction a with
  | nil => simp [parW]
  | cons p r ih => rw [List.cons_append, parW, parW, ih]; omega
theorem parW_snoc (ps : List Par) (k : Nat) (p : Par) (h : ps[k]? = some p) : parW (ps.take (k + 1)) = parW (ps.take k) + (p.1.size + p.2.size) := by
  obtain ⟨hk, e⟩ := List.getElem?_eq_some_iff.1 h
  rw [List.take_succ_eq_append_getElem hk, parW_app, e]
  simp [parW]
theorem parW_le (ps : List Par) (m : Nat) (h : ∀ p ∈ ps, p.1.size ≤ m ∧ p.2.size ≤ m) : parW ps ≤ ps.length * (2 * m) := by
  induction ps with
  | nil => simp [parW]
  | cons p r ih =>
    have h1 := h p (by simp)
    have h2 := ih (fun q hq => h q (by simp [hq]))
    rw [parW, List.length_cons, Nat.succ_mul]
    omega
theorem parW_mem (ps : List Par) (p : Par) (h : p ∈ ps) : p.1.size + p.2.size ≤ parW ps := by
  induction ps with
  | nil => cases h
  | cons q r ih =>
    rw [parW]
    rcases List.mem_cons.1 h with rfl | h'
    · omega
    · have := ih h'
      omega
def chW (c : Chal) : Nat := c.scheme.size + c.token.size + parW c.params
def lightB (c : Chal) : Bool := decide (c.params.length ≤ 20) && decide (chW c ≤ 600)
def lightL (cs : List ChV) : Bool := decide (cs.length ≤ 10) && cs.all (fun c => lightB c.x)
/-- Texts that a machine can hold. -/
def Held (c : Chal) : Prop := c.scheme.size ≤ 140737488355328 ∧ c.token.size ≤ 140737488355328 ∧ ∀ p ∈ c.params, p.1.size ≤ 140737488355328 ∧ p.2.size ≤ 140737488355328
theorem light_few {c : Chal} (h : lightB c = true) : c.params.length ≤ 20 ∧ c.scheme.size ≤ 600 ∧ c.token.size ≤ 600 ∧ ∀ p ∈ c.params, p.1.size ≤ 600 ∧ p.2.size ≤ 600 := by
  unfold lightB at h
  simp only [Bool.and_eq_true, decide_eq_true_eq] at h
  have h2 := h.2
  unfold chW at h2
  refine ⟨h.1, by omega, by omega, fun p hp => ?_⟩
  have := parW_mem _ _ hp
  omega
theorem all_step {cs : List ChV} {k : Nat} {c : ChV} (h : (cs.take k).all (fun c => lightB c.x) = true) (hc : cs[k]? = some c) (hl : lightB c.x = true) : (cs.take (k + 1)).all (fun c => lightB c.x) = true := by
  obtain ⟨hk, e⟩ := List.getElem?_eq_some_iff.1 hc
  rw [List.take_succ_eq_append_getElem hk, List.all_append, h, e]
  simp [hl]
theorem light_no {cs : List ChV} {c : ChV} (hc : c ∈ cs) (hl : lightB c.x = false) : lightL cs = false := by
  unfold lightL
  have : cs.all (fun c => lightB c.x) = false := by
    rw [List.all_eq_false]
    exact ⟨c, hc, by simp [hl]⟩
  rw [this, Bool.and_false]
set_option maxRecDepth 100000 in
set_option maxHeartbeats 4000000 in
theorem heavy_any (cs : List ChV) (hh : ∀ c ∈ cs, Held c.x) (a0 : Option Addr) (len cap b off : Nat) (hlen : len ≤ 9223372036854775807) (hpl : ∀ c ∈ cs, c.len ≤ 9223372036854775807) (w : World) (hx : Chals w a0 len b off cs) :
    Calls Tryd.prog 4 #[.slice a0 len cap] w fun e w' => e = .returned (.bool (!lightL cs)) ∧ ∃ q, w' = w.drewN q := by
  have HX : Hid (Chals w a0 len b off cs) := hx
  have hl := hx.len_eq
  clear hx
  by_cases h10 : (10 : Int) < (len : Int)
  · have HA : Hid (lightL cs = false) := by
      show _ = _
      unfold lightL
      rw [decide_eq_false (by omega), Bool.false_and]
    go_enter Tryd.func4, Tryd.ntmps4
    go_wp2
    go_ret
    exact ⟨by rw [HA.out]; rfl, 0, rfl⟩
  have HH : Hid (∀ c ∈ cs, Held c.x) := hh
  have HPL : Hid (∀ c ∈ cs, c.len ≤ 9223372036854775807) := hpl
  clear hh hpl
  go_enter Tryd.func4, Tryd.ntmps4
  go_wp2
  go_loopw [3] (fun i wr => ∃ (k : Nat), k ≤ len ∧ i = .int .i64 k ∧ Hid ((cs.take k).all (fun c => lightB c.x) = true) ∧ ∃ q, wr = w.drewN q) (fun i _ => len - (intOf i).toNat)
  case atStart => exact ⟨0, Nat.zero_le _, rfl, rfl, 0, rfl⟩
  case round =>
    obtain ⟨k, hk, rfl, HK, q, rfl⟩ := hrel
    by_cases hlt : k < len
    · obtain ⟨c, hck⟩ : ∃ c, cs[k]? = some c := ⟨cs[k]'(by omega), List.getElem?_eq_getElem (by omega)⟩
      have HC : Hid (cs[k]? = some c) := hck
      have HM : Hid (c ∈ cs) := List.mem_of_getElem? hck
      obtain ⟨ha0, hbl⟩ := HX.out.lies (by omega)
      subst ha0
      have hc1 := HX.out.one k c hck
      have hc2 := HX.out.two k c hck
      have hc3 := HX.out.three k c hck
      have hpl := HPL.out c HM.out
      have HP : Hid (Pars w c.a c.len c.b c.off c.x.params) := HX.out.pars c HM.out
      obtain ⟨hz1, hz2, hz3⟩ := HH.out c HM.out
      have HZ3 : Hid (∀ p ∈ c.x.params, p.1.size ≤ 140737488355328 ∧ p.2.size ≤ 140737488355328) := hz3
      clear hz3 hck
      have hkL : (k : Int) < (len : Int) := by omega
      go_wp2
      go_quiet (fail)
      by_cases h20 : (20 : Int) < (c.len : Int)
      · have HA : Hid (lightL cs = false) := light_no HM.out (by unfold lightB; rw [decide_eq_false (show ¬ c.x.params.length ≤ 20 by unfold ChV.len at h20; omega), Bool.false_and])
        go_wp2
        go_ret
        exact ⟨by rw [HA.out]; rfl, _, rfl⟩
      · go_wp2
        go_loopw [4, 5] (fun v i wr => ∃ (j : Nat) (x : Int), j ≤ c.len ∧ i = .int .i64 j ∧ v = .int .i64 x ∧ Hid (x = ((c.x.scheme.size + c.x.token.size + parW (c.x.params.take j) : Nat) : Int)) ∧ 0 ≤ x ∧ x ≤ 281474976710656 + (j : Int) * 281474976710656 ∧ ∃ q, wr = w.drewN q) (fun _ i _ => c.len - (intOf i).toNat)
        case atStart => exact ⟨0, _, Nat.zero_le _, rfl, rfl, by show _ = _; simp [parW], by omega, by omega, _, rfl⟩
        case round =>
          obtain ⟨j, x, hj, rfl, rfl, HJ, hx0, hx1, q2, rfl⟩ := hrel
          by_cases hjl : j < c.len
          · obtain ⟨p, hpj⟩ : ∃ p, c.x.params[j]? = some p := ⟨c.x.params[j]'hjl, List.getElem?_eq_getElem hjl⟩
            have HW : Hid (parW (c.x.params.take (j + 1)) = parW (c.x.params.take j) + (p.1.size + p.2.size)) := parW_snoc _ _ _ hpj
            obtain ⟨hz4, hz5⟩ := HZ3.out p (List.mem_of_getElem? hpj)
            obtain ⟨hca, hcb⟩ := HP.out.lies (by omega)
            rw [hca] at hc3
            have hp1 := HP.out.one j p hpj
            have hp2 := HP.out.two j p hpj
            have hjL : (j : Int) < (c.len : Int) := by omega
            clear hpj
            go_wp2
            go_quiet (fail)
            go_wp2
            go_roundw
            case rel => exact ⟨j + 1, _, by omega, by go_num, rfl, by show _ = _; rw [HW.out, HJ.out]; push_cast; omega, by omega, by push_cast; omega, _, rfl⟩
            case measure => simp [intOf]; omega
          · have HT : Hid (x = (chW c.x : Int)) := by
              have := HJ.out
              rw [List.take_of_length_le (by unfold ChV.len at hjl; omega)] at this
              exact this
            have hjL : ¬ (j : Int) < (c.len : Int) := by omega
            by_cases h600 : (600 : Int) < x
            · have HA : Hid (lightL cs = false) := light_no HM.out (by unfold lightB; rw [decide_eq_false (show ¬ chW c.x ≤ 600 by have := HT.out; omega), Bool.and_false])
              go_wp2
              go_ret
              exact ⟨by rw [HA.out]; rfl, _, rfl⟩
            · have HS : Hid ((cs.take (k + 1)).all (fun c => lightB c.x) = true) := all_step HK.out HC.out (by
                unfold lightB
                rw [decide_eq_true (show c.x.params.length ≤ 20 by unfold ChV.len at h20; omega), decide_eq_true (show chW c.x ≤ 600 by have := HT.out; omega)]
                rfl)
              go_wp2
              go_roundw
              case rel => exact ⟨k + 1, by omega, by go_num, HS, _, rfl⟩
              case measure => simp [intOf]; omega
    · have HA : Hid (lightL cs = true) := by
        show _ = _
        unfold lightL
        have := HK.out
        rw [List.take_of_length_le (by omega)] at this
        rw [this, decide_eq_true (by omega)]
        rfl
      go_wp2
      go_ret
      exact ⟨by rw [HA.out]; rfl, _, rfl⟩
end Go.Proofs.YteldgpkkgnfiaaaDoor
