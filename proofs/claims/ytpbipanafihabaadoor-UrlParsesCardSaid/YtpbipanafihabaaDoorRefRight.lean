/- The document's own look at an origin. -/
import Derived.Test.YtpbipanafihabaaDoorRefLow
import Derived.Test.YtpbipanafihabaaDoorHst
namespace Go.Proofs.YtpbipanafihabaaDoor
open Go.RowKit

theorem step_in (x c : UInt8) (h : (97 ≤ (c.toNat : Int) ∧ (c.toNat : Int) ≤ 122) ∨ (48 ≤ (c.toNat : Int) ∧ (c.toNat : Int) ≤ 57)) : hostStep x c = true := by
  have h1 : c ≠ 46 := fun e => by subst e; simp at h
  have h2 : c ≠ 45 := fun e => by subst e; simp at h
  have h3 : alnum c = true := by
    unfold alnum
    rcases h with h | h
    · rw [decide_eq_true (show 97 ≤ c.toNat ∧ c.toNat ≤ 122 by omega)]; rfl
    · rw [decide_eq_true (show 48 ≤ c.toNat ∧ c.toNat ≤ 57 by omega)]; simp
  simp [hostStep, h1, h2, h3]
theorem step_out (x c : UInt8) (h1 : c ≠ 46) (h2 : c ≠ 45) (h3 : ¬ (97 ≤ (c.toNat : Int) ∧ (c.toNat : Int) ≤ 122)) (h4 : ¬ (48 ≤ (c.toNat : Int) ∧ (c.toNat : Int) ≤ 57)) : hostStep x c = false := by
  have h5 : alnum c = false := by
    unfold alnum
    rw [decide_eq_false (show ¬ (97 ≤ c.toNat ∧ c.toNat ≤ 122) by omega), decide_eq_false (show ¬ (48 ≤ c.toNat ∧ c.toNat ≤ 57) by omega)]
    rfl
  simp [hostStep, h1, h2, h5]
set_option maxHeartbeats 1600000 in
set_option maxRecDepth 100000 in
theorem refRight (sec : Bool) (host : ByteArray) (port : Int) (hs : host.size ≤ 4000) (w : World) :
    Calls Tryd.prog 19 #[.agg #[.bool sec, .string host, .int .i64 port]] w fun e w' => e = .returned (.bool (rightL host.data.toList port)) ∧ Below w.heap.size w w' := by
  by_cases h60 : host.size ≤ 60
  · by_cases hp : 1 ≤ port ∧ port ≤ 65535
    · have HRES : Hid (rightL host.data.toList port = hostL host.data.toList) := by
        show _ = _
        simp [rightL, h60, hp]
      go_enter Tryd.func19, Tryd.ntmps19
      go_wp2_with (go_at_call 18; refine (within_yes _ _ _ hp.1 hp.2 _).mono ?_; rintro e w' ⟨rfl, hw⟩; rw [hw]; clear hw w')
      go_loop [3, 4] (fun v i => ∃ (k : Nat) (x : UInt8), k ≤ host.size + 1 ∧ i = .int .i64 k ∧ v = .int .u8 (x.toNat : Int) ∧ Hid (k ≤ host.size → hostL host.data.toList = hostFrom x (host.data.toList.drop k)) ∧ Hid (host.size < k → hostL host.data.toList = true)) (fun _ i => host.size + 1 - (intOf i).toNat)
      case atStart => exact ⟨0, 46, by omega, rfl, rfl, fun _ => rfl, fun h => by omega⟩
      case round =>
        obtain ⟨k, x, hk, rfl, rfl, H1, H2⟩ := hrel
        have hx256 := x.toNat_lt
        by_cases hlt : k < host.size
        · obtain ⟨c, hcd⟩ : ∃ c : UInt8, host[k] = c := ⟨_, rfl⟩
          have hc256 := c.toNat_lt
          have HN : Hid (hostL host.data.toList = (hostStep x c && hostFrom c (host.data.toList.drop (k + 1)))) := by
            show _ = _
            rw [H1.out (by omega), List.drop_eq_getElem_cons (by simpa using hlt), hostFrom]
            rw [← hcd]
            rfl
          have hno : hostStep x c = false → hostL host.data.toList = false := fun h => by rw [HN.out, h]; rfl
          have hyes : hostStep x c = true → hostL host.data.toList = hostFrom c (host.data.toList.drop (k + 1)) := fun h => by rw [HN.out, h]; simp
          have HNO : Hid (hostStep x c = false → hostL host.data.toList = false) := hno
          have HYES : Hid (hostStep x c = true → hostL host.data.toList = hostFrom c (host.data.toList.drop (k + 1))) := hyes
          clear hno hyes HN H1 H2
          have hcs : c = 46 ∨ c = 45 ∨ (97 ≤ (c.toNat : Int) ∧ (c.toNat : Int) ≤ 122) ∨ (48 ≤ (c.toNat : Int) ∧ (c.toNat : Int) ≤ 57) ∨ ((c ≠ 46 ∧ c ≠ 45) ∧ ¬ (97 ≤ (c.toNat : Int) ∧ (c.toNat : Int) ≤ 122) ∧ ¬ (48 ≤ (c.toNat : Int) ∧ (c.toNat : Int) ≤ 57)) := by
            by_cases e1 : c = 46
            · exact .inl e1
            by_cases e2 : c = 45
            · exact .inr (.inl e2)
            by_cases e3 : 97 ≤ (c.toNat : Int) ∧ (c.toNat : Int) ≤ 122
            · exact .inr (.inr (.inl e3))
            by_cases e4 : 48 ≤ (c.toNat : Int) ∧ (c.toNat : Int) ≤ 57
            · exact .inr (.inr (.inr (.inl e4)))
            exact .inr (.inr (.inr (.inr ⟨⟨e1, e2⟩, e3, e4⟩)))
          have hxs : x = 46 ∨ x = 45 ∨ (x ≠ 46 ∧ x ≠ 45) := by
            by_cases e1 : x = 46
            · exact .inl e1
            by_cases e2 : x = 45
            · exact .inr (.inl e2)
            exact .inr (.inr ⟨e1, e2⟩)
          have hst0 := HNO
          clear hst0
          rcases hcs with rfl | rfl | hc | hc | ⟨hc, hc1, hc2⟩
          · have hd1 : decide (97 ≤ (46 : Int) ∧ (46 : Int) ≤ 122) = false := by decide
            have hd2 : decide (48 ≤ (46 : Int) ∧ (46 : Int) ≤ 57) = false := by decide
            rcases hxs with rfl | rfl | ⟨hx1, hx2⟩
            · have hst : hostStep 46 46 = false := by decide
              go_wp2_with (go_at_call 18; refine (within_any _ _ _ _).mono ?_; rintro e w' ⟨rfl, hw⟩; rw [hw]; (first | rw [hd1] | rw [hd2]); clear hw w')
              all_goals
                go_ret
                exact ⟨by rw [HRES.out, HNO.out hst]; rfl, (Below.refl _ _).alloc (Nat.le_refl _) _⟩
            · have hst : hostStep 45 46 = false := by decide
              go_wp2_with (go_at_call 18; refine (within_any _ _ _ _).mono ?_; rintro e w' ⟨rfl, hw⟩; rw [hw]; (first | rw [hd1] | rw [hd2]); clear hw w')
              all_goals
                go_ret
                exact ⟨by rw [HRES.out, HNO.out hst]; rfl, (Below.refl _ _).alloc (Nat.le_refl _) _⟩
            · have q3 : ((x.toNat : Int) == 46) = false := ne_num hx1
              have q4 : ((x.toNat : Int) == 45) = false := ne_num hx2
              have hst : hostStep x 46 = true := by simp [hostStep, hx1, hx2]
              go_wp2_with (go_at_call 18; refine (within_any _ _ _ _).mono ?_; rintro e w' ⟨rfl, hw⟩; rw [hw]; (first | rw [hd1] | rw [hd2]); clear hw w')
              all_goals
                go_round
                case rel => exact ⟨k + 1, 46, by omega, by go_num, rfl, fun _ => HYES.out hst, fun h => by exfalso; omega⟩
                case measure => simp [intOf]; omega
          · have hd1 : decide (97 ≤ (45 : Int) ∧ (45 : Int) ≤ 122) = false := by decide
            have hd2 : decide (48 ≤ (45 : Int) ∧ (45 : Int) ≤ 57) = false := by decide
            rcases hxs with rfl | rfl | ⟨hx1, hx2⟩
            · have hst : hostStep 46 45 = false := by decide
              go_wp2_with (go_at_call 18; refine (within_any _ _ _ _).mono ?_; rintro e w' ⟨rfl, hw⟩; rw [hw]; (first | rw [hd1] | rw [hd2]); clear hw w')
              all_goals
                go_ret
                exact ⟨by rw [HRES.out, HNO.out hst]; rfl, (Below.refl _ _).alloc (Nat.le_refl _) _⟩
            · have hst : hostStep 45 45 = true := by decide
              go_wp2_with (go_at_call 18; refine (within_any _ _ _ _).mono ?_; rintro e w' ⟨rfl, hw⟩; rw [hw]; (first | rw [hd1] | rw [hd2]); clear hw w')
              all_goals
                go_round
                case rel => exact ⟨k + 1, 45, by omega, by go_num, rfl, fun _ => HYES.out hst, fun h => by exfalso; omega⟩
                case measure => simp [intOf]; omega
            · have q3 : ((x.toNat : Int) == 46) = false := ne_num hx1
              have q4 : ((x.toNat : Int) == 45) = false := ne_num hx2
              have hst : hostStep x 45 = true := by simp [hostStep, hx1]
              go_wp2_with (go_at_call 18; refine (within_any _ _ _ _).mono ?_; rintro e w' ⟨rfl, hw⟩; rw [hw]; (first | rw [hd1] | rw [hd2]); clear hw w')
              all_goals
                go_round
                case rel => exact ⟨k + 1, 45, by omega, by go_num, rfl, fun _ => HYES.out hst, fun h => by exfalso; omega⟩
                case measure => simp [intOf]; omega
          · have hd1 : decide (97 ≤ (c.toNat : Int) ∧ (c.toNat : Int) ≤ 122) = true := by simp; omega
            have hd2 : decide (48 ≤ (c.toNat : Int) ∧ (c.toNat : Int) ≤ 57) = false := by simp; omega
            have hst : hostStep x c = true := step_in x c (by omega)
            have q1 : ((c.toNat : Int) == 46) = false := beq_eq_false_iff_ne.2 (by omega)
            have q2 : ((c.toNat : Int) == 45) = false := beq_eq_false_iff_ne.2 (by omega)
            go_wp2_with (go_at_call 18; refine (within_any _ _ _ _).mono ?_; rintro e w' ⟨rfl, hw⟩; rw [hw]; (first | rw [hd1] | rw [hd2]); clear hw w')
            all_goals
              go_round
              case rel => exact ⟨k + 1, c, by omega, by go_num, rfl, fun _ => HYES.out hst, fun h => by exfalso; omega⟩
              case measure => simp [intOf]; omega
          · have hd1 : decide (97 ≤ (c.toNat : Int) ∧ (c.toNat : Int) ≤ 122) = false := by simp; omega
            have hd2 : decide (48 ≤ (c.toNat : Int) ∧ (c.toNat : Int) ≤ 57) = true := by simp; omega
            have hst : hostStep x c = true := step_in x c (by omega)
            have q1 : ((c.toNat : Int) == 46) = false := beq_eq_false_iff_ne.2 (by omega)
            have q2 : ((c.toNat : Int) == 45) = false := beq_eq_false_iff_ne.2 (by omega)
            go_wp2_with (go_at_call 18; refine (within_any _ _ _ _).mono ?_; rintro e w' ⟨rfl, hw⟩; rw [hw]; (first | rw [hd1] | rw [hd2]); clear hw w')
            all_goals
              go_round
              case rel => exact ⟨k + 1, c, by omega, by go_num, rfl, fun _ => HYES.out hst, fun h => by exfalso; omega⟩
              case measure => simp [intOf]; omega
          · have hd1 : decide (97 ≤ (c.toNat : Int) ∧ (c.toNat : Int) ≤ 122) = false := by simp; omega
            have hd2 : decide (48 ≤ (c.toNat : Int) ∧ (c.toNat : Int) ≤ 57) = false := by simp; omega
            have q1 : ((c.toNat : Int) == 46) = false := ne_num hc.1
            have q2 : ((c.toNat : Int) == 45) = false := ne_num hc.2
            have r1 : ((c.toNat : Int) != 46) = true := by rw [bne, q1]; rfl
            have r2 : ((c.toNat : Int) != 45) = true := by rw [bne, q2]; rfl
            have hst : hostStep x c = false := step_out x c hc.1 hc.2 (by omega) (by omega)
            go_wp2_with (go_at_call 18; refine (within_any _ _ _ _).mono ?_; rintro e w' ⟨rfl, hw⟩; rw [hw]; (first | rw [hd1] | rw [hd2]); clear hw w')
            all_goals
              go_ret
              exact ⟨by rw [HRES.out, HNO.out hst]; rfl, (Below.refl _ _).alloc (Nat.le_refl _) _⟩
        · by_cases hn : k = host.size
          · subst hn
            have HN : Hid (hostL host.data.toList = hostStep x 46) := by
              show _ = _
              rw [H1.out (by omega), List.drop_of_length_le (by simp), hostFrom]
            clear H1 H2
            have hd1 : decide (97 ≤ (46 : Int) ∧ (46 : Int) ≤ 122) = false := by decide
            have hd2 : decide (48 ≤ (46 : Int) ∧ (46 : Int) ≤ 57) = false := by decide
            have hxs : x = 46 ∨ x = 45 ∨ (x ≠ 46 ∧ x ≠ 45) := by
              by_cases e1 : x = 46
              · exact .inl e1
              by_cases e2 : x = 45
              · exact .inr (.inl e2)
              exact .inr (.inr ⟨e1, e2⟩)
            rcases hxs with rfl | rfl | ⟨hx1, hx2⟩
            · go_wp2_with (go_at_call 18; refine (within_any _ _ _ _).mono ?_; rintro e w' ⟨rfl, hw⟩; rw [hw]; (first | rw [hd1] | rw [hd2]); clear hw w')
              all_goals
                go_ret
                exact ⟨by rw [HRES.out, HN.out]; rfl, (Below.refl _ _).alloc (Nat.le_refl _) _⟩
            · go_wp2_with (go_at_call 18; refine (within_any _ _ _ _).mono ?_; rintro e w' ⟨rfl, hw⟩; rw [hw]; (first | rw [hd1] | rw [hd2]); clear hw w')
              all_goals
                go_ret
                exact ⟨by rw [HRES.out, HN.out]; rfl, (Below.refl _ _).alloc (Nat.le_refl _) _⟩
            · have q3 : ((x.toNat : Int) == 46) = false := ne_num hx1
              have q4 : ((x.toNat : Int) == 45) = false := ne_num hx2
              have HST : Hid (hostStep x 46 = true) := by show _ = _; simp [hostStep, hx1, hx2]
              go_wp2_with (go_at_call 18; refine (within_any _ _ _ _).mono ?_; rintro e w' ⟨rfl, hw⟩; rw [hw]; (first | rw [hd1] | rw [hd2]); clear hw w')
              all_goals
                go_round
                case rel => exact ⟨host.size + 1, 46, by omega, by go_num, rfl, fun h => by exfalso; omega, fun _ => by rw [HN.out, HST.out]⟩
                case measure => simp [intOf]
          · go_wp2
            go_ret
            exact ⟨by rw [HRES.out, H2.out (by omega)]; rfl, (Below.refl _ _).alloc (Nat.le_refl _) _⟩
    · have hr : rightL host.data.toList port = false := by simp [rightL, hp]
      rw [hr]
      go_enter Tryd.func19, Tryd.ntmps19
      go_wp2_with (go_at_call 18; refine (within_no _ _ _ hp _).mono ?_; rintro e w' ⟨rfl, hw⟩; rw [hw]; clear hw w')
      go_ret
      exact ⟨rfl, (Below.refl _ _).alloc (Nat.le_refl _) _⟩
  · have hr : rightL host.data.toList port = false := by simp [rightL, h60]
    rw [hr]
    go_enter Tryd.func19, Tryd.ntmps19
    go_wp2
    go_ret
    exact ⟨rfl, (Below.refl _ _).alloc (Nat.le_refl _) _⟩
end Go.Proofs.YtpbipanafihabaaDoor
