/- The header by user and password, by the program. -/
import Derived.Test.YthhbfnfgbonakaaFmtIxo
import Derived.Test.YthhbfnfgbonakaaFmtB64
namespace Go.Proofs.YthhbfnfgbonakaaFmt
open Go.RowKit Go.Shelf

/-- A byte that may not stand in a name or a password. -/
def ctlB (c : UInt8) : Bool := decide (c.toNat < 32) || c == 127
/-- Such a byte stands in a text. -/
def ctlL (l : List UInt8) : Bool := l.any ctlB
theorem ctlL_append (a b : List UInt8) : ctlL (a ++ b) = (ctlL a || ctlL b) := List.any_append ..
def basW : List UInt8 := [66, 97, 115, 105, 99, 32]
def credL (u p : List UInt8) : List UInt8 := u ++ 58 :: p
/-- The header, or the error's number. -/
def basO (u p : List UInt8) : Except Nat (List UInt8) :=
  if 58 ∈ u then .error 1 else if ctlL (u ++ p) then .error 3 else .ok (basW ++ enc (credL u p))
set_option maxRecDepth 100000 in
set_option maxHeartbeats 1000000 in
theorem ctl_any (s : ByteArray) (hs : s.size ≤ 5000) (w : World) :
    Calls Tryf.prog 14 #[.string s] w fun e w' => e = .returned (.bool (ctlL s.data.toList)) ∧ w' = w := by
  have hsl : s.data.toList.length = s.size := Array.length_toList
  go_enter Tryf.func14, Tryf.ntmps14
  go_wp2
  go_loop [6] (fun i => ∃ (k : Nat), k ≤ s.size ∧ i = .int .i64 k ∧ Hid (ctlL (s.data.toList.take k) = false)) (fun i => s.size - (intOf i).toNat)
  case atStart => exact ⟨0, Nat.zero_le _, rfl, rfl⟩
  case round =>
    obtain ⟨k, hk, rfl, HK⟩ := hrel
    by_cases hlt : k < s.size
    · obtain ⟨c, hcd⟩ : ∃ c : UInt8, s[k] = c := ⟨_, rfl⟩
      have hcl : (c.toNat : Int) < 256 := by have := c.toNat_lt; omega
      have HS : Hid (s.data.toList.take (k + 1) = s.data.toList.take k ++ [c]) := by rw [← hcd]; exact take_snoc s k hlt
      have HM : Hid (c ∈ s.data.toList) := by rw [← hcd]; exact List.getElem_mem (l := s.data.toList) (by omega)
      by_cases h1 : (c.toNat : Int) < 32
      · have HY : Hid (ctlL s.data.toList = true) := List.any_eq_true.2 ⟨c, HM.out, by simp [ctlB]; omega⟩
        go_wp2
        go_ret
        exact ⟨by rw [HY.out]; rfl, rfl⟩
      · by_cases h2 : (c.toNat : Int) = 127
        · have HY : Hid (ctlL s.data.toList = true) := List.any_eq_true.2 ⟨c, HM.out, by
            have : c = 127 := by
              rw [← UInt8.toNat_inj]
              show c.toNat = 127
              omega
            subst this
            decide⟩
          go_wp2
          go_ret
          exact ⟨by rw [HY.out]; rfl, rfl⟩
        · have HN : Hid (ctlL (s.data.toList.take (k + 1)) = false) := by
            show _ = _
            rw [HS.out, ctlL_append, HK.out]
            have h3 : c ≠ 127 := fun e => h2 (by rw [e]; rfl)
            simp [ctlL, ctlB, h3]
            omega
          have h2' : ((c.toNat : Int) == 127) = false := by simp [h2]
          go_wp2
          go_round
          case rel => exact ⟨k + 1, by omega, by go_num, HN⟩
          case measure => simp [intOf]; omega
    · have HN : Hid (ctlL s.data.toList = false) := by
        show _ = _
        have := HK.out
        rw [List.take_of_length_le (by omega)] at this
        exact this
      go_wp2
      go_ret
      exact ⟨by rw [HN.out]; rfl, rfl⟩
theorem index_one (s : ByteArray) (c : UInt8) (w : World) :
    Calls Tryf.prog 24 #[.string s, .string ⟨#[c]⟩] w fun e w' => e = .returned (.int .i64 (ixOf s.data.toList c)) ∧ w' = w := by
  go_enter Tryf.func24, Tryf.ntmps24
  go_wp2_with fail
  refine (index_at s c _).mono ?_
  rintro e w' ⟨rfl, rfl⟩
  go_wp2
  go_ret
  exact ⟨rfl, rfl⟩
theorem has_one (s : ByteArray) (c : UInt8) (w : World) :
    Calls Tryf.prog 13 #[.string s, .string ⟨#[c]⟩] w fun e w' => e = .returned (.bool (decide (c ∈ s.data.toList))) ∧ w' = w := by
  have hx := index_one s c
  rcases ixOf_first s.data.toList c with ⟨hi, hno⟩ | ⟨k, hk, hi, hno, hsp⟩
  · have HN : Hid (decide (c ∈ s.data.toList) = false) := decide_eq_false hno
    rw [hi] at hx
    clear hno
    go_enter Tryf.func13, Tryf.ntmps13
    go_wp2_with fail
    refine (hx _).mono ?_
    rintro e w' ⟨rfl, rfl⟩
    go_wp2
    go_ret
    exact ⟨by rw [HN.out]; rfl, rfl⟩
  · have HN : Hid (decide (c ∈ s.data.toList) = true) := decide_eq_true (by rw [hsp]; simp)
    rw [hi] at hx
    clear hno hsp
    have hk0 : (0 : Int) ≤ (k : Int) := by omega
    go_enter Tryf.func13, Tryf.ntmps13
    go_wp2_with fail
    refine (hx _).mono ?_
    rintro e w' ⟨rfl, rfl⟩
    go_wp2
    go_ret
    exact ⟨by rw [HN.out]; simp, rfl⟩
/-- What Basic answers. -/
def BasAns (u p : List UInt8) (e : Ending) : Prop :=
  match basO u p with
  | .ok t => e = .returned (.tuple #[.string (bs t), .nilIface])
  | .error n => e = .returned (.tuple #[.string ⟨#[]⟩, .iface 24 (.int .i64 (n : Int))])
theorem basAns_one {u p : List UInt8} {e : Ending} (h : 58 ∈ u) (he : e = .returned (.tuple #[.string ⟨#[]⟩, .iface 24 (.int .i64 1)])) : BasAns u p e := by
  unfold BasAns basO
  rw [if_pos h]
  exact he
theorem basAns_three {u p : List UInt8} {e : Ending} (h : 58 ∉ u) (hc : ctlL (u ++ p) = true) (he : e = .returned (.tuple #[.string ⟨#[]⟩, .iface 24 (.int .i64 3)])) : BasAns u p e := by
  unfold BasAns basO
  rw [if_neg h, if_pos hc]
  exact he
theorem basAns_ok {u p : List UInt8} {e : Ending} (h : 58 ∉ u) (hc : ctlL (u ++ p) = false) (he : e = .returned (.tuple #[.string (bs (basW ++ enc (credL u p))), .nilIface])) : BasAns u p e := by
  unfold BasAns basO
  rw [if_neg h, if_neg (by rw [hc]; simp)]
  exact he
set_option maxRecDepth 100000 in
set_option maxHeartbeats 2000000 in
theorem basic_any (u p : ByteArray) (hz : u.size + p.size ≤ 900) (w : World) :
    Calls Tryf.prog 6 #[.agg #[.string u, .string p]] w fun e w' => BasAns u.data.toList p.data.toList e ∧ Below w.heap.size w w' := by
  have hA : Below w.heap.size w (w.alloc (.cells #[.string u, .string p] 23)) := (Below.refl _ _).alloc (Nat.le_refl _) _
  have hin := fun w => has_one u 58 w
  have hc1 := fun w => ctl_any u (by omega) w
  have hc2 := fun w => ctl_any p (by omega) w
  by_cases h58 : 58 ∈ u.data.toList
  · rw [decide_eq_true h58] at hin
    have H58 : Hid (58 ∈ u.data.toList) := h58
    clear h58
    go_enter Tryf.func6, Tryf.ntmps6
    go_wp2_with fail
    refine (hin _).mono ?_
    rintro e w' ⟨rfl, rfl⟩
    go_wp2
    go_ret2
    exact ⟨basAns_one H58.out rfl, hA⟩
  · rw [decide_eq_false h58] at hin
    have H58 : Hid (58 ∉ u.data.toList) := h58
    clear h58
    obtain ⟨q1, HQ1⟩ : ∃ q, Hid (ctlL u.data.toList = q) := ⟨_, rfl⟩
    obtain ⟨q2, HQ2⟩ : ∃ q, Hid (ctlL p.data.toList = q) := ⟨_, rfl⟩
    rw [HQ1.out] at hc1
    rw [HQ2.out] at hc2
    cases q1
    · cases q2
      · have HQ : Hid (ctlL (u.data.toList ++ p.data.toList) = false) := by show _ = _; rw [ctlL_append, HQ1.out, HQ2.out]; rfl
        have hz2 : (u ++ ⟨#[58]⟩ ++ p).size ≤ 1000 := by rw [ByteArray.size_append, ByteArray.size_append]; show u.size + 1 + p.size ≤ 1000; omega
        have hcr : (u ++ ⟨#[58]⟩ ++ p).data.toList = credL u.data.toList p.data.toList := by simp [credL]
        have hb := fun w => base_any (u ++ ⟨#[58]⟩ ++ p) w hz2
        rw [hcr] at hb
        have HE : Hid ((⟨#[66, 97, 115, 105, 99, 32]⟩ : ByteArray) ++ bs (enc (credL u.data.toList p.data.toList)) = bs (basW ++ enc (credL u.data.toList p.data.toList))) := by
          show _ = _
          rw [bs_append]; rfl
        have hsz : (bs (enc (credL u.data.toList p.data.toList))).size ≤ 4000 := by
          rw [bs_size, enc_length]
          have e1 : u.data.toList.length = u.size := Array.length_toList
          have e2 : p.data.toList.length = p.size := Array.length_toList
          unfold credL
          rw [List.length_append, List.length_cons]
          omega
        generalize bs (enc (credL u.data.toList p.data.toList)) = X at hb HE hsz
        go_enter Tryf.func6, Tryf.ntmps6
        go_wp2_with fail
        refine (hin _).mono ?_
        rintro e w' ⟨rfl, rfl⟩
        go_wp2_with fail
        refine (hc1 _).mono ?_
        rintro e w' ⟨rfl, rfl⟩
        go_wp2_with fail
        refine (hc2 _).mono ?_
        rintro e w' ⟨rfl, rfl⟩
        go_wp2_with fail
        refine (hb _).mono ?_
        rintro e w2 ⟨rfl, hb2⟩
        go_wp2
        go_ret2
        exact ⟨basAns_ok H58.out HQ.out (by rw [← HE.out]; rfl), hA.trans (hb2.mono (by simp))⟩
      · have HQ : Hid (ctlL (u.data.toList ++ p.data.toList) = true) := by show _ = _; rw [ctlL_append, HQ1.out, HQ2.out]; rfl
        go_enter Tryf.func6, Tryf.ntmps6
        go_wp2_with fail
        refine (hin _).mono ?_
        rintro e w' ⟨rfl, rfl⟩
        go_wp2_with fail
        refine (hc1 _).mono ?_
        rintro e w' ⟨rfl, rfl⟩
        go_wp2_with fail
        refine (hc2 _).mono ?_
        rintro e w' ⟨rfl, rfl⟩
        go_wp2
        go_ret2
        exact ⟨basAns_three H58.out HQ.out rfl, hA⟩
    · have HQ : Hid (ctlL (u.data.toList ++ p.data.toList) = true) := by show _ = _; rw [ctlL_append, HQ1.out]; rfl
      go_enter Tryf.func6, Tryf.ntmps6
      go_wp2_with fail
      refine (hin _).mono ?_
      rintro e w' ⟨rfl, rfl⟩
      go_wp2_with fail
      refine (hc1 _).mono ?_
      rintro e w' ⟨rfl, rfl⟩
      go_wp2
      go_ret2
      exact ⟨basAns_three H58.out HQ.out rfl, hA⟩
end Go.Proofs.YthhbfnfgbonakaaFmt
